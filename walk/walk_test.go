package walk_test

import (
	"testing"

	"lockkeeper/api"
	"lockkeeper/bound"
	"lockkeeper/hist"
	"lockkeeper/walk"
)

func of(t *testing.T, counts ...int) *hist.Hist {
	t.Helper()
	h, err := hist.New(len(counts))
	if err != api.OK {
		t.Fatal(err)
	}
	for level, many := range counts {
		h.Add(level, many)
	}
	return h
}

func TestPassedAndStops(t *testing.T) {
	h := of(t, 4, 4, 2)
	for _, c := range []struct{ threshold, passed, stops int }{
		{-5, 0, 10}, {0, 0, 10}, {1, 4, 6}, {2, 8, 2}, {3, 10, 0}, {4, 10, 0}, {api.MaxInt, 10, 0}, {api.MinInt, 0, 10},
	} {
		if p, s := walk.Passed(h, c.threshold), walk.Stops(h, c.threshold); p != c.passed || s != c.stops {
			t.Errorf("at %d: %d, %d", c.threshold, p, s)
		}
	}
}

func TestSteps(t *testing.T) {
	for _, c := range []struct{ from, to, want int }{
		{0, 0, 0}, {0, 5, 5}, {5, 0, 0}, {5, 8, 3}, {-5, 3, 8}, {-5, -3, 2}, {3, -5, 0}, {0, api.MaxCount, api.MaxCount}, {0, api.MaxCount + 1, api.MaxCount},
		{0, api.MaxInt, api.MaxCount}, {-1, api.MaxInt, api.MaxCount}, {api.MinInt, 0, api.MaxCount}, {api.MinInt, api.MaxInt, api.MaxCount}, {api.MaxInt, api.MinInt, 0},
	} {
		if got := walk.Steps(c.from, c.to); got != c.want {
			t.Errorf("Steps(%d, %d) = %d", c.from, c.to, got)
		}
	}
}

func TestDownExamples(t *testing.T) {
	h := of(t, 4, 4, 2)
	for _, c := range []struct{ threshold, floor, cut, want int }{
		{3, 0, 50, 1}, {3, 0, 10, 2}, {3, 0, 100, 0}, {3, 1, 100, 1}, {3, 0, 0, 2}, {3, 2, 50, 2}, {3, 3, 50, 3}, {2, 3, 50, 2},
		{9, 0, 10, 2}, {-2, 0, 10, 0}, {3, -4, 100, 0}, {3, 9, 50, 3}, {1, 0, 1, 0}, {3, 0, -7, 2}, {3, 0, 1000, 0}, {0, 0, 50, 0},
		{api.MaxInt, api.MinInt, 50, 1}, {2, 1, 50, 1},
	} {
		if got := walk.Down(h, c.threshold, c.floor, c.cut); got != c.want {
			t.Errorf("Down(%d, %d, %d) = %d, want %d", c.threshold, c.floor, c.cut, got, c.want)
		}
	}
}

func TestUpExamples(t *testing.T) {
	h := of(t, 4, 4, 2)
	for _, c := range []struct{ threshold, lift, want int }{
		{1, 10, 2}, {2, 90, 3}, {3, 10, 3}, {0, 40, 1}, {0, 41, 2}, {0, 80, 2}, {0, 81, 3}, {0, 0, 1}, {1, -5, 2}, {0, 500, 3},
		{-3, 10, 1}, {7, 10, 3}, {api.MinInt, 100, 3},
	} {
		if got := walk.Up(h, c.threshold, c.lift); got != c.want {
			t.Errorf("Up(%d, %d) = %d, want %d", c.threshold, c.lift, got, c.want)
		}
	}
}

func TestAgainstTheWordsOfTheDocument(t *testing.T) {
	n := uint32(3)
	next := func(k int) int {
		n = n*1664525 + 1013904223
		return int(n>>16) % k
	}
	for round := 0; round < 300; round++ {
		counts := make([]int, 1+next(12))
		for i := range counts {
			counts[i] = next(5)
		}
		h := of(t, counts...)
		threshold, floor, percent := next(len(counts)+1), next(len(counts)+1), next(101)
		passed := h.Below(threshold)
		down := threshold
		if threshold > floor {
			down = floor
			for x := floor; x < threshold; x++ {
				if h.Below(x) <= passed-bound.Part(passed, percent) {
					down = x
				}
			}
		}
		if got := walk.Down(h, threshold, floor, percent); got != down {
			t.Fatalf("%v: Down(%d, %d, %d) = %d, want %d", counts, threshold, floor, percent, got, down)
		}
		up := len(counts)
		for x := len(counts); x > threshold; x-- {
			if h.Below(x) >= passed+bound.Part(h.Total(), percent) {
				up = x
			}
		}
		if got := walk.Up(h, threshold, percent); got != up {
			t.Fatalf("%v: Up(%d, %d) = %d, want %d", counts, threshold, percent, got, up)
		}
	}
}

func TestUpReachesAnyThresholdInSoManySteps(t *testing.T) {
	h := of(t, 0, 3, 0, 0, 9, 1, 0, 2)
	for from := 0; from <= 8; from++ {
		for to := 0; to <= 8; to++ {
			at := from
			for i := 0; i < walk.Steps(from, to); i++ {
				if next := walk.Up(h, at, 1); next <= at && at < 8 {
					t.Fatalf("Up does not rise at %d", at)
				} else {
					at = next
				}
			}
			if at < to {
				t.Errorf("from %d to %d: at %d", from, to, at)
			}
		}
	}
}

func TestGreatCounts(t *testing.T) {
	h := of(t, api.MaxCount, api.MaxCount)
	if got := walk.Up(h, 1, 100); got != 2 {
		t.Errorf("Up = %d", got)
	}
	if got := walk.Down(h, 2, 0, 1); got != 0 {
		t.Errorf("Down = %d", got)
	}
	if got := walk.Stops(h, 1); got != 0 {
		t.Errorf("Stops = %d", got)
	}
}

func TestNilAndZeroHistograms(t *testing.T) {
	for name, h := range map[string]*hist.Hist{"nil": nil, "zero": {}} {
		for _, x := range []int{-1, 0, 5, api.MaxInt} {
			if walk.Down(h, x, 0, 50) != 0 || walk.Down(h, x, x, 50) != 0 || walk.Up(h, x, 50) != 0 || walk.Passed(h, x) != 0 || walk.Stops(h, x) != 0 {
				t.Errorf("%s at %d", name, x)
			}
		}
	}
}
