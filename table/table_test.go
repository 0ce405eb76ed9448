package table_test

import (
	"slices"
	"testing"

	"lockkeeper/api"
	"lockkeeper/table"
)

func made(t *testing.T, ttl int) *table.Table {
	t.Helper()
	x, err := table.New(ttl)
	if x == nil || err != api.OK {
		t.Fatalf("New(%d): %v", ttl, err)
	}
	return x
}

func known(t *testing.T, x *table.Table, to, now int, want api.Known, ok bool) {
	t.Helper()
	if got, found := x.Get(to, now); got != want || found != ok {
		t.Errorf("Get(%d, %d) = %v, %v; want %v, %v", to, now, got, found, want, ok)
	}
}

func TestNewExaminesTtl(t *testing.T) {
	for _, ttl := range []int{0, 1, api.MaxTicks} {
		if x := made(t, ttl); len(x.All(0)) != 0 {
			t.Errorf("New(%d) knows something", ttl)
		}
	}
	for _, ttl := range []int{-1, api.MaxTicks + 1, api.MinInt, api.MaxInt} {
		if x, err := table.New(ttl); x != nil || err != api.ErrArg {
			t.Errorf("New(%d) = %v, %v", ttl, x, err)
		}
	}
}

func TestExample(t *testing.T) {
	x := made(t, 10)
	if !x.Learn(3, 5, 2, 7) || x.Learn(3, 9, 1, 7) {
		t.Error("Learn")
	}
	if !x.Cuts(3, 5, 17) || x.Cuts(3, 5, 18) || x.Cuts(3, 4, 17) || x.Cuts(2, 5, 17) {
		t.Error("Cuts")
	}
	known(t, x, 3, 17, api.Known{To: 3, Threshold: 5, Epoch: 2, At: 7}, true)
	known(t, x, 3, 18, api.Known{}, false)
}

func TestEpochs(t *testing.T) {
	x := made(t, 10)
	x.Learn(1, 5, 4, 20)
	if !x.Learn(1, 99, 4, 26) {
		t.Error("the same epoch")
	}
	known(t, x, 1, 26, api.Known{To: 1, Threshold: 5, Epoch: 4, At: 26}, true)
	if !x.Learn(1, 99, 4, 22) {
		t.Error("the same epoch, at a lesser tick")
	}
	known(t, x, 1, 26, api.Known{To: 1, Threshold: 5, Epoch: 4, At: 22}, true)
	if x.Learn(1, 1, 3, 30) {
		t.Error("an older epoch")
	}
	known(t, x, 1, 26, api.Known{To: 1, Threshold: 5, Epoch: 4, At: 22}, true)
	if !x.Learn(1, 2, 5, 23) {
		t.Error("a newer epoch")
	}
	known(t, x, 1, 26, api.Known{To: 1, Threshold: 2, Epoch: 5, At: 23}, true)
	// What is not valid any more keeps out older epochs all the same.
	if x.Learn(1, 8, 4, 900) {
		t.Error("an older epoch, behind the time")
	}
	// Zeros are an announcement as well.
	if !x.Learn(0, 0, 0, 0) || !x.Cuts(0, 0, 5) || x.Learn(0, 7, -1, 3) {
		t.Error("an announcement of zeros")
	}
	known(t, x, 0, 10, api.Known{}, true)
}

func TestValidity(t *testing.T) {
	x := made(t, 10)
	x.Learn(2, 5, 1, 50)
	for now, want := range map[int]bool{-3: true, 0: true, 49: true, 50: true, 60: true, 61: false, api.MaxInt: false, api.MinInt: true} {
		if _, found := x.Get(2, now); found != want {
			t.Errorf("at %d: %v", now, found)
		}
		if x.Cuts(2, 7, now) != want {
			t.Errorf("at %d: cuts", now)
		}
	}
	zero := made(t, 0)
	zero.Learn(2, 5, 1, 50)
	if !zero.Cuts(2, 5, 50) || zero.Cuts(2, 5, 51) {
		t.Error("valid for no ticks")
	}
	// Ticks are clamped, also when they are kept.
	zero.Learn(3, 5, 1, -9)
	known(t, zero, 3, 0, api.Known{To: 3, Threshold: 5, Epoch: 1}, true)
	zero.Learn(4, 5, 1, api.MaxInt)
	known(t, zero, 4, api.MaxTicks, api.Known{To: 4, Threshold: 5, Epoch: 1, At: api.MaxTicks}, true)
	zero.Learn(4, 5, 1, api.MinInt)
	known(t, zero, 4, 0, api.Known{To: 4, Threshold: 5, Epoch: 1}, true)
}

func TestCuts(t *testing.T) {
	x := made(t, 10)
	x.Learn(1, 3, 1, 0)
	x.Learn(2, -5, 1, 0)
	for _, c := range []struct {
		to, level int
		want      bool
	}{{1, 2, false}, {1, 3, true}, {1, 4, true}, {1, -1, true}, {1, 0, false}, {2, 0, true}, {3, 0, false}, {3, 99, false}, {-1, 9, false}, {8, 9, false}} {
		if got := x.Cuts(c.to, c.level, 0); got != c.want {
			t.Errorf("Cuts(%d, %d) = %v", c.to, c.level, got)
		}
	}
}

func TestServices(t *testing.T) {
	x := made(t, 10)
	for _, to := range []int{-1, 8, api.MaxInt, api.MinInt} {
		if x.Learn(to, 5, 1, 0) {
			t.Errorf("Learn of %d", to)
		}
		known(t, x, to, 0, api.Known{}, false)
	}
	for to := 7; to >= 0; to-- {
		if !x.Learn(to, to, 1, 2*to) {
			t.Errorf("Learn of %d", to)
		}
	}
	var want []api.Known
	for to := 2; to < 8; to++ {
		want = append(want, api.Known{To: to, Threshold: to, Epoch: 1, At: 2 * to})
	}
	if got := x.All(14); !slices.Equal(got, want) {
		t.Errorf("All = %v", got)
	}
	x.All(14)[0].Threshold = 77
	known(t, x, 2, 14, api.Known{To: 2, Threshold: 2, Epoch: 1, At: 4}, true)
	x.Clear()
	if len(x.All(0)) != 0 || x.Cuts(5, 9, 0) || !x.Learn(5, 1, 0, 0) {
		t.Error("Clear")
	}
}

func TestNilAndZero(t *testing.T) {
	for name, x := range map[string]*table.Table{"nil": nil, "zero": {}} {
		if x.Learn(1, 2, 3, 4) || x.Cuts(1, 9, 4) || len(x.All(4)) != 0 {
			t.Errorf("%s knows something", name)
		}
		known(t, x, 1, 4, api.Known{}, false)
		x.Clear()
	}
}
