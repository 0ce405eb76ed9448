package mix_test

import (
	"math"
	"slices"
	"testing"

	"lockkeeper/api"
	"lockkeeper/mix"
)

var numbers = []uint64{0, 1, 2, 255, 256, 1 << 32, 0x0123456789abcdef, 1 << 63, math.MaxUint64 - 1, math.MaxUint64}

// slow follows the document's words, rotation by rotation, without the library.
func slow(key, x, y uint64) (uint64, uint64) {
	for i := uint64(0); i < 8; i++ {
		x = x>>8 | x<<56
		x += y
		x ^= key + i*0x9E3779B97F4A7C15
		y = y<<3 | y>>61
		y ^= x
	}
	return x, y
}

func each(do func(key, x, y uint64)) {
	for _, key := range numbers {
		for _, x := range numbers {
			for _, y := range numbers {
				do(key, x, y)
			}
		}
	}
}

func TestPairIsEightRounds(t *testing.T) {
	each(func(key, x, y uint64) {
		a, b := mix.Pair(key, x, y)
		if c, d := slow(key, x, y); a != c || b != d {
			t.Errorf("Pair(%d, %d, %d) = %d, %d, want %d, %d", key, x, y, a, b, c, d)
		}
		if mix.Of(key, x, y) != a {
			t.Errorf("Of(%d, %d, %d) is not the first of the pair", key, x, y)
		}
	})
}

func TestBackTurnsPairRound(t *testing.T) {
	each(func(key, x, y uint64) {
		if a, b := mix.Back(key, x, y); true {
			if c, d := mix.Pair(key, a, b); c != x || d != y {
				t.Errorf("Pair of Back(%d, %d, %d) = %d, %d", key, x, y, c, d)
			}
		}
		c, d := mix.Pair(key, x, y)
		if a, b := mix.Back(key, c, d); a != x || b != y {
			t.Errorf("Back of Pair(%d, %d, %d) = %d, %d", key, x, y, a, b)
		}
	})
}

func TestPairsDiffer(t *testing.T) {
	seen := map[[2]uint64]int{}
	for x := uint64(0); x < 100; x++ {
		for y := uint64(0); y < 100; y++ {
			a, b := mix.Pair(7, x, y)
			seen[[2]uint64{a, b}]++
		}
	}
	if len(seen) != 100*100 {
		t.Errorf("%d different pairs of 10000", len(seen))
	}
}

func TestClassIsOfModulo(t *testing.T) {
	each(func(key, x, y uint64) {
		for _, n := range []int{1, 2, 3, 16, 1000, api.MaxInt} {
			first, _ := slow(key, x, y)
			if got := mix.Class(key, x, y, n); got != int(first%uint64(n)) {
				t.Errorf("Class(%d, %d, %d, %d) = %d", key, x, y, n, got)
			}
		}
		for _, n := range []int{0, -1, -16, api.MinInt} {
			if got := mix.Class(key, x, y, n); got != 0 {
				t.Errorf("Class(%d, %d, %d, %d) = %d", key, x, y, n, got)
			}
		}
	})
}

func TestAllAreClassesInOrder(t *testing.T) {
	var want []int
	for _, y := range numbers {
		want = append(want, mix.Class(5, 6, y, 7))
	}
	if got := mix.All(5, 6, 7, numbers...); !slices.Equal(got, want) {
		t.Errorf("All = %v, want %v", got, want)
	}
	if got := mix.All(5, 6, 7); len(got) != 0 {
		t.Errorf("All of none = %v", got)
	}
	if got := mix.All(5, 6, 0, 1, 2); !slices.Equal(got, []int{0, 0}) {
		t.Errorf("All of no classes = %v", got)
	}
}
