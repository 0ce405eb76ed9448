package control_test

import (
	"testing"

	"lockkeeper/api"
	"lockkeeper/calm"
	"lockkeeper/control"
	"lockkeeper/knob"
)

var usual = knob.Usual(8)

func made(t *testing.T, levels, tiers int, k api.Knobs) *control.Control {
	t.Helper()
	c, err := control.New(levels, tiers, k)
	if c == nil || err != api.OK {
		t.Fatalf("New(%d, %d, %v): %v", levels, tiers, k, err)
	}
	return c
}

func expect(t *testing.T, c *control.Control, threshold, tier, epoch, way int) {
	t.Helper()
	if c.Threshold() != threshold || c.Tier() != tier || c.Epoch() != epoch || c.Way() != way {
		t.Errorf("threshold %d, tier %d, epoch %d, way %d; want %d, %d, %d, %d", c.Threshold(), c.Tier(), c.Epoch(), c.Way(), threshold, tier, epoch, way)
	}
	for l := -2; l < threshold+3; l++ {
		if c.Passes(l) != (l >= 0 && l < threshold) {
			t.Errorf("threshold %d: Passes(%d) = %v", threshold, l, c.Passes(l))
		}
	}
	for k := -1; k < 9; k++ {
		if c.Permits(k) != (k <= tier) {
			t.Errorf("tier %d: Permits(%d) = %v", tier, k, c.Permits(k))
		}
	}
}

func TestNewExaminesLevelsTiersAndSettings(t *testing.T) {
	for _, c := range []struct {
		levels, tiers int
		k             api.Knobs
		want          api.Errno
	}{
		{1, 0, usual, api.OK}, {128, 7, usual, api.OK}, {0, 0, usual, api.ErrArg}, {129, 0, usual, api.ErrArg}, {-1, 0, usual, api.ErrArg},
		{8, -1, usual, api.ErrArg}, {8, 8, usual, api.ErrArg}, {8, 0, api.Knobs{}, api.ErrConf}, {0, 0, api.Knobs{}, api.ErrArg}, {8, 8, api.Knobs{}, api.ErrArg},
		{api.MaxInt, api.MinInt, usual, api.ErrArg},
	} {
		x, err := control.New(c.levels, c.tiers, c.k)
		if err != c.want || (x != nil) != (err == api.OK) {
			t.Errorf("New(%d, %d, %v): %v", c.levels, c.tiers, c.k, err)
		}
	}
	c := made(t, 8, 3, usual)
	expect(t, c, 8, 3, 1, 0)
	if c.Knobs() != usual || c.Calm() != 0 {
		t.Errorf("knobs %v, calm %d", c.Knobs(), c.Calm())
	}
}

// window counts one of each level, and waits as they come.
func window(c *control.Control, levels int, waits ...int) api.Close {
	for l := 0; l < levels; l++ {
		c.Saw(l)
	}
	for _, w := range waits {
		c.Waited(w)
	}
	return c.Close()
}

func TestExample(t *testing.T) {
	c := made(t, 4, 0, usual)
	if got := window(c, 4, 9); got != (api.Close{Verdict: api.Over, Threshold: 3, Epoch: 2, Moved: true}) {
		t.Errorf("Close = %v", got)
	}
	expect(t, c, 3, 0, 2, -1)
}

func TestSawCountsLevelsOnly(t *testing.T) {
	c := made(t, 4, 0, usual)
	for l, want := range map[int]bool{-1: false, 0: true, 3: true, 4: false, api.MaxInt: false} {
		if c.Saw(l) != want {
			t.Errorf("Saw(%d)", l)
		}
	}
}

func TestWindows(t *testing.T) {
	k := api.Knobs{Low: 2, High: 4, Cut: 50, Lift: 25, Floor: 1, Turn: 2, Dwell: 2}
	c := made(t, 8, 2, k)
	for i, x := range []struct {
		waits      []int
		want       api.Close
		way, calms int
	}{
		// A mean that is neither too great nor too small does nothing.
		{[]int{2, 3, 4}, api.Close{Verdict: api.Mid, Threshold: 8, Tier: 2, Epoch: 1}, 0, 0},
		{[]int{4, 6}, api.Close{Verdict: api.Over, Threshold: 4, Tier: 1, Epoch: 2, Moved: true, Dimmed: true}, -1, 1 + 4 + 2},
		{[]int{5}, api.Close{Verdict: api.Over, Threshold: 2, Tier: 1, Epoch: 3, Moved: true}, -1, 1 + 6 + 2},
		{[]int{5}, api.Close{Verdict: api.Over, Threshold: 1, Tier: 0, Epoch: 4, Moved: true, Dimmed: true}, -1, 1 + 7 + 4},
		// At the floor nothing moves, and the epoch stays.
		{[]int{5}, api.Close{Verdict: api.Over, Threshold: 1, Tier: 0, Epoch: 4}, -1, 1 + 7 + 4},
		// The way has been kept long enough; the tier waits until all levels pass.
		{[]int{1}, api.Close{Verdict: api.Calm, Threshold: 3, Tier: 0, Epoch: 5, Moved: true}, 1, 1 + 5 + 4},
		{nil, api.Close{Verdict: api.Calm, Threshold: 5, Tier: 0, Epoch: 6, Moved: true}, 1, 1 + 3 + 4},
		{nil, api.Close{Verdict: api.Calm, Threshold: 7, Tier: 0, Epoch: 7, Moved: true}, 1, 1 + 1 + 4},
		{nil, api.Close{Verdict: api.Calm, Threshold: 8, Tier: 1, Epoch: 8, Moved: true, Dimmed: true}, 1, 2},
		{nil, api.Close{Verdict: api.Calm, Threshold: 8, Tier: 1, Epoch: 8}, 1, 2},
		{nil, api.Close{Verdict: api.Calm, Threshold: 8, Tier: 2, Epoch: 8, Dimmed: true}, 1, 0},
	} {
		if got := window(c, 8, x.waits...); got != x.want {
			t.Errorf("window %d: %v, want %v", i, got, x.want)
		}
		expect(t, c, x.want.Threshold, x.want.Tier, x.want.Epoch, x.way)
		if c.Calm() != x.calms {
			t.Errorf("window %d: calm %d, want %d", i, c.Calm(), x.calms)
		}
	}
}

func TestTheWayIsNotTurnedTooSoon(t *testing.T) {
	k := usual
	k.Turn = 3
	c := made(t, 8, 0, k)
	window(c, 8, 9)
	for i, want := range []int{7, 7, 8} {
		if got := window(c, 8); got.Threshold != want || got.Verdict != api.Calm {
			t.Errorf("window %d: %v", i, got)
		}
	}
}

func TestCloseForgetsTheWindow(t *testing.T) {
	k := usual
	k.Cut = 50
	c := made(t, 8, 0, k)
	window(c, 8, 9)
	// Were the counts of the first window still there, the threshold would go by them.
	c.Saw(7)
	c.Waited(9)
	if got := c.Close(); got.Threshold != 3 {
		t.Errorf("by the second window's counts alone: %v", got)
	}
	if got := c.Close(); got.Verdict != api.Calm {
		t.Errorf("an empty window: %v", got)
	}
}

func TestPush(t *testing.T) {
	c := made(t, 8, 2, usual)
	window(c, 8, 9)
	before := *c
	other := api.Knobs{Low: 0, High: 100, Cut: 1, Lift: 1, Floor: 8, Turn: 1, Dwell: 1}
	for _, k := range []api.Knobs{{}, {Low: 0, High: 100, Cut: 1, Lift: 1, Floor: 9, Turn: 1, Dwell: 1}} {
		if err := c.Push(k); err != api.ErrConf || *c != before {
			t.Errorf("Push(%v): %v", k, err)
		}
	}
	c.Waited(50)
	if err := c.Push(other); err != api.OK || c.Knobs() != other {
		t.Errorf("Push: %v, %v", err, c.Knobs())
	}
	expect(t, c, 7, 1, 2, -1)
	// The window goes on with what it saw, by the new settings.
	if got := c.Close(); got != (api.Close{Verdict: api.Mid, Threshold: 7, Tier: 1, Epoch: 2}) {
		t.Errorf("Close = %v", got)
	}
}

func TestRestart(t *testing.T) {
	c := made(t, 8, 2, usual)
	window(c, 8, 9)
	other := usual
	other.Lift = 50
	c.Push(other)
	c.Saw(0)
	c.Waited(99)
	c.Restart()
	expect(t, c, 8, 2, 3, 0)
	if c.Knobs() != other || c.Calm() != 0 {
		t.Errorf("knobs %v, calm %d", c.Knobs(), c.Calm())
	}
	if got := c.Close(); got.Verdict != api.Calm || got.Moved || got.Dimmed {
		t.Errorf("the window is not forgotten: %v", got)
	}
	// Nor are the counts there any more by which the threshold went down.
	other.Cut = 50
	c.Push(other)
	window(c, 8)
	c.Saw(5)
	c.Restart()
	c.Saw(7)
	c.Waited(99)
	if got := c.Close(); got.Threshold != 7 {
		t.Errorf("the counts are not forgotten: %v", got)
	}
	c.Restart()
	expect(t, c, 8, 2, 6, 0)
	// The dimmer is as at the beginning: it may go down at once, and the way too.
	if got := window(c, 8, 9); !got.Moved || !got.Dimmed {
		t.Errorf("behind Restart: %v", got)
	}
}

func TestAllIsOpenAfterAsManyCalmWindowsAsCalmSays(t *testing.T) {
	n := uint32(17)
	next := func(k int) int {
		n = n*1664525 + 1013904223
		return int(n>>16) % k
	}
	for round := 0; round < 300; round++ {
		levels, tiers := 1+next(20), next(8)
		k := api.Knobs{Low: 3, High: 6, Cut: 1 + next(99), Lift: 1 + next(100), Floor: next(levels + 1), Turn: 1 + next(5), Dwell: 1 + next(5)}
		c := made(t, levels, tiers, k)
		epoch := c.Epoch()
		for i := 0; i < 30; i++ {
			for j := 0; j < 5; j++ {
				c.Saw(next(levels))
			}
			before := c.Threshold()
			got := window(c, 0, next(10))
			if got.Moved != (got.Threshold != before) || got.Epoch < epoch || got.Moved != (got.Epoch == epoch+1) {
				t.Fatalf("from %d in epoch %d: %v", before, epoch, got)
			}
			epoch = got.Epoch
		}
		windows := c.Calm()
		if windows > calm.Worst(k, levels, tiers) {
			t.Fatalf("Calm %d is more than Worst", windows)
		}
		for i := 0; i < windows; i++ {
			c.Saw(next(levels))
			c.Close()
		}
		if c.Threshold() != levels || c.Tier() != tiers || c.Calm() != 0 {
			t.Fatalf("levels %d, tiers %d, %v: threshold %d, tier %d after %d calm windows", levels, tiers, k, c.Threshold(), c.Tier(), windows)
		}
	}
}

func TestNilAndZero(t *testing.T) {
	for name, c := range map[string]*control.Control{"nil": nil, "zero": {}} {
		c.Waited(5)
		c.Restart()
		if c.Saw(0) || c.Close() != (api.Close{}) || c.Knobs() != (api.Knobs{}) || c.Calm() != 0 {
			t.Errorf("%s is something", name)
		}
		expect(t, c, 0, 0, 0, 0)
		if !c.Permits(api.MinInt) || c.Permits(1) {
			t.Errorf("%s: tiers", name)
		}
		for _, k := range []api.Knobs{usual, {}} {
			if err := c.Push(k); err != api.ErrArg {
				t.Errorf("%s: Push: %v", name, err)
			}
		}
	}
}
