package ledger_test

import (
	"slices"
	"testing"

	"lockkeeper/api"
	"lockkeeper/ledger"
)

func came(tick, s, id, level, code int) api.Event {
	return api.Event{Kind: api.EvCame, Tick: tick, S: s, Id: id, A: level, Code: code, B: 8}
}

func event(kind, tick, s, id, code int) api.Event {
	return api.Event{Kind: kind, Tick: tick, S: s, Id: id, Code: code}
}

func TestEveryState(t *testing.T) {
	l := []api.Event{
		came(1, 0, 5, 3, 0), came(1, 1, 5, 4, api.Refused), event(api.EvStart, 2, 0, 5, 0), event(api.EvCall, 2, 0, 5, 0), came(2, 0, 6, 7, 0), event(api.EvSkip, 2, 0, 5, 8),
		event(api.EvEnd, 3, 1, 5, api.Refused), event(api.EvEnd, 4, 0, 5, api.Late), came(5, 0, 5, 2, 0), event(api.EvErase, 6, 0, 5, 0), event(api.EvStart, 7, 0, 6, 0), came(8, 2, 6, 1, api.Expired),
		came(9, 0, 5, 1, 0), event(api.EvEnd, 9, 0, 5, api.Evicted), came(10, 0, 5, 0, 0), came(11, 3, 1, 0, 0), event(api.EvStart, 11, 3, 1, 0), event(api.EvErase, 12, 3, 1, 0),
	}
	want := []api.Fate{
		{S: 0, Id: 5, State: api.FateOver, Level: 3, Code: api.Late, Came: 1, Began: 2, Ended: 4},
		{S: 1, Id: 5, State: api.FateOver, Level: 4, Code: api.Refused, Came: 1, Ended: 3},
		{S: 0, Id: 6, State: api.FateWorks, Level: 7, Came: 2, Began: 7},
		{S: 0, Id: 5, State: api.FateErased, Level: 2, Came: 5, Ended: 6},
		{S: 2, Id: 6, State: api.FateJudged, Level: 1, Code: api.Expired, Came: 8},
		{S: 0, Id: 5, State: api.FateOver, Level: 1, Code: api.Evicted, Came: 9, Ended: 9},
		{S: 0, Id: 5, State: api.FateWaits, Came: 10},
		{S: 3, Id: 1, State: api.FateErased, Came: 11, Began: 11, Ended: 12},
	}
	got, at, err := ledger.Read(l...)
	if !slices.Equal(got, want) || at != 0 || err != api.OK {
		t.Errorf("Read = %v, %d, %v", got, at, err)
	}
	if !ledger.Same(got, want) || ledger.Same(got, want[1:]) || ledger.Same(got[:7], append(slices.Clone(want[:6]), api.Fate{})) || !ledger.Same(nil, []api.Fate{}) {
		t.Error("Same")
	}
	if x, ok := ledger.Last(0, 5, got...); x != want[6] || !ok {
		t.Errorf("Last = %v, %v", x, ok)
	}
	if x, ok := ledger.Last(0, 6, got...); x != want[2] || !ok {
		t.Errorf("Last = %v, %v", x, ok)
	}
	for _, k := range [][2]int{{0, 7}, {3, 5}, {-1, 5}} {
		if x, ok := ledger.Last(k[0], k[1], got...); x != (api.Fate{}) || ok {
			t.Errorf("Last of %v = %v, %v", k, x, ok)
		}
	}
	if open := ledger.Open(got...); !slices.Equal(open, []api.Fate{want[2], want[4], want[6]}) {
		t.Errorf("Open = %v", open)
	}
	if tally := ledger.Tally(got...); !slices.Equal(tally, []int{3, 0, 1, 0, 0, 1, 1, 0, 0, 0, 0, 2}) {
		t.Errorf("Tally = %v", tally)
	}
}

func TestWhatIsImpossible(t *testing.T) {
	const start, end, call, skip, erase = api.EvStart, api.EvEnd, api.EvCall, api.EvSkip, api.EvErase
	kinds := []int{api.EvCame, start, end, call, skip, erase}
	for name, x := range map[string]struct {
		l    []api.Event
		able []int // the kinds that are possible then
	}{
		"none":        {nil, []int{api.EvCame}},
		"of others":   {[]api.Event{came(1, 1, 5, 0, 0), came(1, 0, 6, 0, 0)}, []int{api.EvCame}},
		"waits":       {[]api.Event{came(1, 0, 5, 0, 0)}, []int{start, end, erase}},
		"judged":      {[]api.Event{came(1, 0, 5, 0, 7)}, []int{end}},
		"judged else": {[]api.Event{came(1, 0, 5, 0, 6)}, nil},
		"works":       {[]api.Event{came(1, 0, 5, 0, 0), event(start, 1, 0, 5, 0)}, []int{end, call, skip, erase}},
		"over":        {[]api.Event{came(1, 0, 5, 0, 0), event(end, 1, 0, 5, 2)}, []int{api.EvCame}},
		"erased":      {[]api.Event{came(1, 0, 5, 0, 0), event(erase, 1, 0, 5, 0)}, []int{api.EvCame}},
	} {
		for _, kind := range kinds {
			l := append(slices.Clone(x.l), event(kind, 2, 0, 5, 7))
			got, at, err := ledger.Read(append(l, event(start, 9, 9, 9, 9))...)
			wantAt := len(l) - 1
			if slices.Contains(x.able, kind) {
				wantAt++
			}
			if len(got) != 0 || at != wantAt || err != api.ErrState {
				t.Errorf("%s, kind %d: %v, %d, %v", name, kind, got, at, err)
			}
			if _, _, err := ledger.Read(l...); (err == api.OK) != slices.Contains(x.able, kind) {
				t.Errorf("%s, kind %d: %v", name, kind, err)
			}
		}
	}
}

func TestOtherKindsAreIgnored(t *testing.T) {
	for _, kind := range []int{-1, 0, api.EvTwice, api.EvHeard, api.EvLearn, api.EvClose, api.EvPush, api.EvRestart, api.EvAsk, api.EvAnswer, api.EvLost, 16, api.MaxInt} {
		l := []api.Event{event(kind, 1, 0, 5, 1), came(1, 0, 5, 2, 0), event(kind, 2, 0, 5, 1)}
		if got, at, err := ledger.Read(l...); !slices.Equal(got, []api.Fate{{S: 0, Id: 5, State: api.FateWaits, Level: 2, Came: 1}}) || at != 0 || err != api.OK {
			t.Errorf("kind %d: %v, %d, %v", kind, got, at, err)
		}
	}
	if got, at, err := ledger.Read(); len(got) != 0 || at != 0 || err != api.OK {
		t.Errorf("Read of none = %v, %d, %v", got, at, err)
	}
}

func TestTally(t *testing.T) {
	var l []api.Fate
	for state := -1; state <= 6; state++ {
		for code := -1; code <= 12; code++ {
			for range 3 {
				l = append(l, api.Fate{State: state, Code: code})
			}
		}
	}
	l = append(l, api.Fate{State: api.FateOver, Code: api.MinInt}, api.Fate{State: api.FateOver, Code: api.MaxInt})
	if got := ledger.Tally(l...); !slices.Equal(got, []int{3 * 3 * 14, 3, 3, 3, 3, 3, 3, 3, 3, 3, 3, 3 * 14}) {
		t.Errorf("Tally = %v", got)
	}
	if got := ledger.Tally(); !slices.Equal(got, make([]int, 12)) {
		t.Errorf("Tally of none = %v", got)
	}
	if len(ledger.Open()) != 0 {
		t.Error("Open of none")
	}
	ledger.Open(l...)[0].Id = 77
	if slices.ContainsFunc(l, func(f api.Fate) bool { return f.Id == 77 }) {
		t.Error("shared with the argument")
	}
}

func TestWaited(t *testing.T) {
	for _, c := range []struct {
		x    api.Fate
		want int
		ok   bool
	}{
		{api.Fate{State: api.FateWorks, Came: 3, Began: 8}, 5, true}, {api.Fate{State: api.FateWorks}, 0, true}, {api.Fate{State: api.FateWorks, Came: 3}, 0, false},
		{api.Fate{State: api.FateWorks, Began: 3}, 3, true}, {api.Fate{State: api.FateWorks, Came: 9, Began: 3}, -6, true},
		{api.Fate{State: api.FateOver, Came: 3, Began: 8}, 5, true}, {api.Fate{State: api.FateOver}, 0, false}, {api.Fate{State: api.FateOver, Came: 3}, 0, false},
		{api.Fate{State: api.FateOver, Began: 8}, 8, true}, {api.Fate{State: api.FateOver, Came: api.MinInt, Began: api.MaxInt}, -1, true},
		{api.Fate{State: api.FateJudged, Came: 3, Began: 8}, 0, false}, {api.Fate{State: api.FateWaits, Came: 3, Began: 8}, 0, false},
		{api.Fate{State: api.FateErased, Came: 3, Began: 8}, 0, false}, {api.Fate{Came: 3, Began: 8}, 0, false}, {api.Fate{State: 6, Began: 8}, 0, false},
	} {
		if got, ok := ledger.Waited(c.x); got != c.want || ok != c.ok {
			t.Errorf("Waited(%v) = %d, %v", c.x, got, ok)
		}
	}
}
