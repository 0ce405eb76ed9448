package turn_test

import (
	"testing"

	"lockkeeper/api"
	"lockkeeper/turn"
)

// steps holds each step's result, way and held windows against those that are wanted.
func steps(t *testing.T, dwell int, l ...[4]int) {
	t.Helper()
	x := turn.New()
	for i, s := range l {
		if got := x.Step(s[0], dwell); got != s[1] || x.Way() != s[2] || x.Held() != s[3] {
			t.Errorf("dwell %d, step %d: %d, way %d, held %d; want %v", dwell, i, got, x.Way(), x.Held(), s)
		}
	}
}

func TestNewHasNoWay(t *testing.T) {
	if x := turn.New(); x.Way() != 0 || x.Held() != 0 {
		t.Errorf("way %d, held %d", x.Way(), x.Held())
	}
}

func TestAWayIsKept(t *testing.T) {
	const over, calm, mid = api.Over, api.Calm, api.Mid
	steps(t, 3, [4]int{over, -1, -1, 1}, [4]int{calm, 0, -1, 2}, [4]int{calm, 0, -1, 3}, [4]int{calm, 1, 1, 1}, [4]int{calm, 1, 1, 2}, [4]int{over, 0, 1, 3}, [4]int{over, -1, -1, 1})
	steps(t, 1, [4]int{over, -1, -1, 1}, [4]int{calm, 1, 1, 1}, [4]int{over, -1, -1, 1})
	steps(t, 3, [4]int{mid, 0, 0, 0}, [4]int{mid, 0, 0, 0}, [4]int{calm, 1, 1, 1}, [4]int{mid, 0, 1, 2}, [4]int{mid, 0, 1, 3}, [4]int{over, -1, -1, 1})
	steps(t, 3, [4]int{over, -1, -1, 1}, [4]int{over, -1, -1, 2}, [4]int{mid, 0, -1, 3}, [4]int{over, -1, -1, 4}, [4]int{calm, 1, 1, 1})
	for _, dwell := range []int{0, -1, api.MinInt} {
		steps(t, dwell, [4]int{calm, 1, 1, 1}, [4]int{over, -1, -1, 1})
	}
	steps(t, api.MaxInt, [4]int{calm, 1, 1, 1}, [4]int{over, 0, 1, 2})
}

func TestOtherVerdictsWantNone(t *testing.T) {
	for _, verdict := range []int{-1, 3, api.MaxInt, api.MinInt} {
		steps(t, 2, [4]int{verdict, 0, 0, 0}, [4]int{api.Over, -1, -1, 1}, [4]int{verdict, 0, -1, 2}, [4]int{api.Calm, 1, 1, 1})
	}
}

func TestClear(t *testing.T) {
	x := turn.New()
	x.Step(api.Over, 5)
	x.Step(api.Mid, 5)
	x.Clear()
	if x.Way() != 0 || x.Held() != 0 || *x != (turn.Turn{}) {
		t.Errorf("way %d, held %d", x.Way(), x.Held())
	}
	if got := x.Step(api.Calm, 5); got != 1 || x.Held() != 1 {
		t.Errorf("behind Clear: %d", got)
	}
}

func TestTheOtherWayComesNoSoonerThanDwell(t *testing.T) {
	n := uint32(7)
	for dwell := 1; dwell <= 6; dwell++ {
		x := turn.New()
		way, since := 0, 0
		for step := 0; step < 2000; step++ {
			n = n*1664525 + 1013904223
			got := x.Step(int(n>>16)%3, dwell)
			if x.Way() != way {
				if way != 0 && step-since < dwell {
					t.Fatalf("dwell %d: turned at %d, adopted at %d", dwell, step, since)
				}
				way, since = x.Way(), step
				if got != way {
					t.Fatalf("dwell %d: adopted %d, but the step is %d", dwell, way, got)
				}
			}
			if got != 0 && got != way {
				t.Fatalf("dwell %d: a step %d against the way %d", dwell, got, way)
			}
			if way != 0 && x.Held() != step-since+1 {
				t.Fatalf("dwell %d: held %d at %d, adopted at %d", dwell, x.Held(), step, since)
			}
		}
	}
}

func TestNilAndZero(t *testing.T) {
	var none *turn.Turn
	none.Clear()
	if none.Step(api.Over, 1) != 0 || none.Way() != 0 || none.Held() != 0 {
		t.Error("nil has a way")
	}
	zero := &turn.Turn{}
	if zero.Step(api.Over, 1) != -1 || zero.Way() != -1 || zero.Held() != 1 {
		t.Error("zero is not like new")
	}
}
