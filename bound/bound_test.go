package bound_test

import (
	"math/big"
	"testing"

	"lockkeeper/api"
	"lockkeeper/bound"
)

// numbers are ordinary ones, and those at the edges of counts, ticks and ints.
var numbers = []int{
	api.MinInt, api.MinInt + 1, -api.MaxTicks, -101, -100, -3, -1, 0, 1, 2, 3, 5, 7, 50, 99, 100, 101, 1000,
	api.MaxCount - 1, api.MaxCount, api.MaxCount + 1, api.MaxTicks - 1, api.MaxTicks, api.MaxTicks + 1, api.MaxInt - 1, api.MaxInt,
}

// kept is a number from 0 to most, worked out without ints that could run over.
func kept(n *big.Int, most int) *big.Int {
	if n.Sign() < 0 {
		return big.NewInt(0)
	}
	if m := big.NewInt(int64(most)); n.Cmp(m) > 0 {
		return m
	}
	return n
}

func number(n int) *big.Int { return big.NewInt(int64(n)) }

func TestKeepClampsFromZeroToMost(t *testing.T) {
	for _, n := range numbers {
		for _, most := range numbers {
			want := 0
			if most > 0 && n > 0 {
				want = n
				if n > most {
					want = most
				}
			}
			if got := bound.Keep(n, most); got != want {
				t.Errorf("Keep(%d, %d) = %d, want %d", n, most, got, want)
			}
		}
	}
}

func TestAddSubMulAreCountsOfCounts(t *testing.T) {
	for _, a := range numbers {
		for _, b := range numbers {
			x, y := kept(number(a), api.MaxCount), kept(number(b), api.MaxCount)
			for _, c := range []struct {
				name string
				got  int
				want *big.Int
			}{
				{"Add", bound.Add(a, b), new(big.Int).Add(x, y)},
				{"Sub", bound.Sub(a, b), new(big.Int).Sub(x, y)},
				{"Mul", bound.Mul(a, b), new(big.Int).Mul(x, y)},
			} {
				if want := kept(c.want, api.MaxCount); number(c.got).Cmp(want) != 0 {
					t.Errorf("%s(%d, %d) = %d, want %v", c.name, a, b, c.got, want)
				}
			}
		}
	}
}

func TestSumAddsOneAfterTheOther(t *testing.T) {
	for _, c := range []struct {
		l    []int
		want int
	}{
		{nil, 0}, {[]int{}, 0}, {[]int{-5}, 0}, {[]int{4}, 4}, {[]int{1, 2, 3}, 6}, {[]int{5, -5, 2}, 7},
		{[]int{api.MaxCount, 1, -1}, api.MaxCount}, {[]int{api.MaxInt, api.MaxInt}, api.MaxCount}, {[]int{api.MinInt, 1}, 1},
	} {
		if got := bound.Sum(c.l...); got != c.want {
			t.Errorf("Sum(%v) = %d, want %d", c.l, got, c.want)
		}
	}
}

func TestMeanShareAndPart(t *testing.T) {
	for _, n := range numbers {
		for _, p := range numbers {
			x, y := kept(number(n), api.MaxCount), kept(number(p), api.MaxCount)
			mean := big.NewInt(0)
			if y.Sign() > 0 {
				mean.Div(x, y)
			}
			if got := bound.Mean(n, p); number(got).Cmp(mean) != 0 {
				t.Errorf("Mean(%d, %d) = %d, want %v", n, p, got, mean)
			}
			down, rest := new(big.Int).DivMod(new(big.Int).Mul(x, kept(number(p), 100)), big.NewInt(100), new(big.Int))
			if got := bound.Share(n, p); number(got).Cmp(down) != 0 {
				t.Errorf("Share(%d, %d) = %d, want %v", n, p, got, down)
			}
			if rest.Sign() > 0 {
				down.Add(down, big.NewInt(1))
			}
			if got := bound.Part(n, p); number(got).Cmp(down) != 0 {
				t.Errorf("Part(%d, %d) = %d, want %v", n, p, got, down)
			}
		}
	}
}

func TestTicks(t *testing.T) {
	for _, a := range numbers {
		for _, b := range numbers {
			x, y := kept(number(a), api.MaxTicks), kept(number(b), api.MaxTicks)
			if got, want := bound.Later(a, b), kept(new(big.Int).Add(x, y), api.MaxTicks); number(got).Cmp(want) != 0 {
				t.Errorf("Later(%d, %d) = %d, want %v", a, b, got, want)
			}
			if got, want := bound.Left(a, b), kept(new(big.Int).Sub(x, y), api.MaxTicks); number(got).Cmp(want) != 0 {
				t.Errorf("Left(%d, %d) = %d, want %v", a, b, got, want)
			}
		}
	}
}

func TestShareAndPartMakeTheWhole(t *testing.T) {
	for _, n := range []int{0, 1, 2, 7, 99, 100, 101, 12345, api.MaxCount} {
		last := 0
		for p := 0; p <= 100; p++ {
			if got := bound.Share(n, p) + bound.Part(n, 100-p); got != n {
				t.Errorf("Share and Part of %d at %d make %d", n, p, got)
			}
			if s := bound.Share(n, p); s < last {
				t.Errorf("Share(%d, %d) = %d is less than at %d", n, p, s, p-1)
			} else {
				last = s
			}
		}
	}
}

func TestExamples(t *testing.T) {
	if bound.Share(7, 50) != 3 || bound.Part(7, 50) != 4 {
		t.Error("shares of 7")
	}
	if bound.Add(api.MaxCount, 1) != api.MaxCount || bound.Sub(2, 5) != 0 {
		t.Error("sums at the edge")
	}
	if bound.Mean(9, 2) != 4 || bound.Mean(9, 0) != 0 {
		t.Error("means of 9")
	}
}
