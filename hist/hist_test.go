package hist_test

import (
	"slices"
	"testing"

	"lockkeeper/api"
	"lockkeeper/bound"
	"lockkeeper/hist"
)

func of(t *testing.T, counts ...int) *hist.Hist {
	t.Helper()
	h, err := hist.New(len(counts))
	if h == nil || err != api.OK {
		t.Fatalf("New(%d): %v", len(counts), err)
	}
	for level, many := range counts {
		h.Add(level, many)
	}
	return h
}

func TestNewExaminesLevels(t *testing.T) {
	for _, levels := range []int{1, 2, 127, 128} {
		h, err := hist.New(levels)
		if h == nil || err != api.OK || !slices.Equal(h.All(), make([]int, levels)) || h.Total() != 0 {
			t.Errorf("New(%d): %v", levels, err)
		}
	}
	for _, levels := range []int{0, -1, 129, api.MaxInt, api.MinInt} {
		if h, err := hist.New(levels); h != nil || err != api.ErrArg {
			t.Errorf("New(%d) = %v, %v", levels, h, err)
		}
	}
}

func TestCountAndAdd(t *testing.T) {
	h := of(t, 0, 0, 0)
	if !h.Count(1) || !h.Count(1) || !h.Add(2, 5) || !h.Add(2, -3) || !h.Add(0, 0) {
		t.Error("a level that is there")
	}
	for _, level := range []int{-1, 3, 127, api.MaxInt, api.MinInt} {
		if h.Count(level) || h.Add(level, 2) || h.Many(level) != 0 {
			t.Errorf("level %d", level)
		}
	}
	if !slices.Equal(h.All(), []int{0, 2, 5}) || h.Many(0) != 0 || h.Many(1) != 2 || h.Many(2) != 5 {
		t.Errorf("all: %v", h.All())
	}
	h.Add(2, api.MaxInt)
	if h.Count(2); h.Many(2) != api.MaxCount {
		t.Errorf("at the edge: %d", h.Many(2))
	}
	h.Clear()
	if !slices.Equal(h.All(), []int{0, 0, 0}) || h.Total() != 0 {
		t.Errorf("behind Clear: %v", h.All())
	}
}

func TestThresholds(t *testing.T) {
	h := of(t, 2, 0, 3)
	for threshold, want := range map[int]int{-1: 0, 0: 0, 1: 2, 2: 2, 3: 5, 4: 5, api.MaxInt: 5, api.MinInt: 0} {
		if got := h.Below(threshold); got != want {
			t.Errorf("Below(%d) = %d", threshold, got)
		}
	}
	if h.Total() != 5 {
		t.Errorf("Total = %d", h.Total())
	}
	for many, want := range map[int]int{-7: 0, 0: 0, 1: 0, 2: 2, 3: 2, 4: 2, 5: 3, 6: 3, api.MaxInt: 3} {
		if got := h.Most(many); got != want {
			t.Errorf("Most(%d) = %d, want %d", many, got, want)
		}
	}
	for many, want := range map[int]int{-7: 0, 0: 0, 1: 1, 2: 1, 3: 3, 5: 3} {
		if got, ok := h.Least(many); got != want || !ok {
			t.Errorf("Least(%d) = %d, %v", many, got, ok)
		}
	}
	for _, many := range []int{6, 7, api.MaxInt} {
		if got, ok := h.Least(many); got != 0 || ok {
			t.Errorf("Least(%d) = %d, %v", many, got, ok)
		}
	}
}

func TestSumsStopAtTheGreatestCount(t *testing.T) {
	h := of(t, api.MaxCount, 1, api.MaxCount, 0)
	if h.Total() != api.MaxCount || h.Below(1) != api.MaxCount || h.Below(3) != api.MaxCount {
		t.Errorf("Total %d", h.Total())
	}
	if got := h.Most(api.MaxInt); got != 4 {
		t.Errorf("Most = %d", got)
	}
	if got := h.Most(api.MaxCount - 1); got != 0 {
		t.Errorf("Most = %d", got)
	}
	// More than can be counted is as many as can be counted.
	if got, ok := h.Least(api.MaxInt); got != 1 || !ok {
		t.Errorf("Least = %d, %v", got, ok)
	}
}

func TestMostAndLeastAreTheEdges(t *testing.T) {
	n := uint32(5)
	for round := 0; round < 50; round++ {
		counts := make([]int, 1+round*127/49)
		for i := range counts {
			n = n*1664525 + 1013904223
			counts[i] = int(n>>16) % 4
		}
		h := of(t, counts...)
		if want := bound.Sum(counts...); h.Total() != want || h.Below(len(counts)) != want {
			t.Fatalf("Total %d, want %d", h.Total(), want)
		}
		for many := -1; many <= h.Total()+1; many++ {
			m := h.Most(many)
			if h.Below(m) > max(many, 0) || m < len(counts) && h.Below(m+1) <= max(many, 0) {
				t.Fatalf("Most(%d) = %d of %v", many, m, counts)
			}
			l, ok := h.Least(many)
			if ok != (many <= h.Total()) || ok && (h.Below(l) < many || l > 0 && h.Below(l-1) >= many) {
				t.Fatalf("Least(%d) = %d, %v of %v", many, l, ok, counts)
			}
		}
	}
}

func TestAnswersAreNewMemory(t *testing.T) {
	h := of(t, 1, 2)
	h.All()[0] = 77
	if h.Many(0) != 1 || h.Total() != 3 {
		t.Errorf("all: %v", h.All())
	}
}

func TestNilAndZero(t *testing.T) {
	for name, h := range map[string]*hist.Hist{"nil": nil, "zero": {}} {
		h.Clear()
		if h.Count(0) || h.Add(0, 5) || h.Many(0) != 0 || h.Below(1) != 0 || h.Total() != 0 || h.Most(5) != 0 || len(h.All()) != 0 {
			t.Errorf("%s counts", name)
		}
		for _, many := range []int{-1, 0, 1} {
			if got, ok := h.Least(many); got != 0 || ok {
				t.Errorf("%s: Least(%d) = %d, %v", name, many, got, ok)
			}
		}
	}
}
