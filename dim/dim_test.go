package dim_test

import (
	"testing"

	"lockkeeper/api"
	"lockkeeper/dim"
)

func full(t *testing.T, tiers int) *dim.Dim {
	t.Helper()
	d, err := dim.New(tiers)
	if d == nil || err != api.OK {
		t.Fatalf("New(%d): %v", tiers, err)
	}
	return d
}

func expect(t *testing.T, d *dim.Dim, tier, held int) {
	t.Helper()
	if d.Tier() != tier || d.Held() != held {
		t.Errorf("tier %d, held %d; want %d, %d", d.Tier(), d.Held(), tier, held)
	}
	for k := -2; k <= 9; k++ {
		if d.Permits(k) != (k <= tier) {
			t.Errorf("tier %d: Permits(%d) = %v", tier, k, d.Permits(k))
		}
	}
}

func TestNewExaminesTiers(t *testing.T) {
	for tiers := 0; tiers <= 7; tiers++ {
		expect(t, full(t, tiers), tiers, 32)
	}
	for _, tiers := range []int{-1, 8, api.MaxInt, api.MinInt} {
		if d, err := dim.New(tiers); d != nil || err != api.ErrArg {
			t.Errorf("New(%d) = %v, %v", tiers, d, err)
		}
	}
}

func step(t *testing.T, d *dim.Dim, verdict int, open bool, dwell int, want bool, tier, held int) {
	t.Helper()
	if got := d.Step(verdict, open, dwell); got != want {
		t.Errorf("Step(%d, %v, %d) = %v", verdict, open, dwell, got)
	}
	expect(t, d, tier, held)
}

func TestOverSwitchesOffAfterDwell(t *testing.T) {
	d := full(t, 2)
	step(t, d, api.Over, false, 2, true, 1, 0)
	step(t, d, api.Over, true, 2, false, 1, 1)
	step(t, d, api.Over, true, 2, true, 0, 0)
	step(t, d, api.Over, true, 2, false, 0, 1)
	step(t, d, api.Over, true, 2, false, 0, 2)
	step(t, d, api.Over, true, 2, false, 0, 3)
}

func TestCalmSwitchesOnOnlyIfOpen(t *testing.T) {
	d := full(t, 2)
	step(t, d, api.Calm, true, 1, false, 2, 33)
	step(t, d, api.Over, true, 1, true, 1, 0)
	step(t, d, api.Over, true, 1, true, 0, 0)
	step(t, d, api.Calm, false, 1, false, 0, 1)
	step(t, d, api.Calm, true, 3, false, 0, 2)
	step(t, d, api.Calm, true, 3, true, 1, 0)
	step(t, d, api.Calm, true, 2, false, 1, 1)
	step(t, d, api.Calm, true, 2, true, 2, 0)
	step(t, d, api.Calm, true, 1, false, 2, 1)
}

func TestOtherVerdictsDoNothing(t *testing.T) {
	d := full(t, 3)
	held := 32
	for _, verdict := range []int{api.Mid, -1, 3, api.MaxInt, api.MinInt} {
		held++
		step(t, d, verdict, true, 1, false, 3, held)
	}
}

func TestDwellCountsAsOneAtLeast(t *testing.T) {
	for _, dwell := range []int{0, -1, api.MinInt} {
		d := full(t, 2)
		step(t, d, api.Over, true, dwell, true, 1, 0)
		step(t, d, api.Over, true, dwell, true, 0, 0)
		step(t, d, api.Calm, true, dwell, true, 1, 0)
	}
	step(t, full(t, 1), api.Over, true, 33, true, 0, 0)
	step(t, full(t, 1), api.Over, true, 34, false, 1, 33)
}

func TestClear(t *testing.T) {
	d := full(t, 3)
	d.Step(api.Over, true, 1)
	d.Step(api.Over, true, 1)
	d.Clear()
	expect(t, d, 3, 32)
}

func TestTierMovesByOneAndNoSoonerThanDwell(t *testing.T) {
	n := uint32(11)
	for dwell := 1; dwell <= 5; dwell++ {
		d := full(t, 4)
		tier, since := d.Tier(), -100
		for i := 0; i < 2000; i++ {
			n = n*1664525 + 1013904223
			moved := d.Step(int(n>>16)%3, n>>20%2 == 0, dwell)
			if moved != (d.Tier() != tier) {
				t.Fatalf("dwell %d: Step is %v from %d to %d", dwell, moved, tier, d.Tier())
			}
			if moved {
				if by := d.Tier() - tier; by != 1 && by != -1 || i-since < dwell {
					t.Fatalf("dwell %d: from %d to %d, %d windows behind the last change", dwell, tier, d.Tier(), i-since)
				}
				tier, since = d.Tier(), i
			}
			if tier < 0 || tier > 4 {
				t.Fatalf("tier %d", tier)
			}
		}
	}
}

func TestNilAndZeroHaveNoTiers(t *testing.T) {
	for name, d := range map[string]*dim.Dim{"nil": nil, "zero": {}} {
		for _, verdict := range []int{api.Over, api.Calm, api.Mid} {
			if d.Step(verdict, true, 1) {
				t.Errorf("%s: Step(%d)", name, verdict)
			}
			expect(t, d, 0, 0)
		}
		d.Clear()
		expect(t, d, 0, 0)
	}
}
