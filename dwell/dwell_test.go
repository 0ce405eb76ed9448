package dwell_test

import (
	"slices"
	"testing"

	"lockkeeper/api"
	"lockkeeper/calm"
	"lockkeeper/control"
	"lockkeeper/dwell"
)

func closes(threshold, tier int) api.Event {
	return api.Event{Kind: api.EvClose, S: 2, Id: 9, Code: api.Calm, A: threshold, B: tier}
}

func kind(k, s int) api.Event { return api.Event{Kind: k, S: s, A: 1, B: 1} }

func of(thresholds ...int) []api.Event {
	var l []api.Event
	for _, t := range thresholds {
		l = append(l, closes(t, 3))
	}
	return l
}

func tiers(l ...int) []api.Event {
	var out []api.Event
	for _, tier := range l {
		out = append(out, closes(8, tier))
	}
	return out
}

func join(l ...[]api.Event) []api.Event { return slices.Concat(l...) }

var restart = []api.Event{kind(api.EvRestart, 2)}

func TestMoves(t *testing.T) {
	for name, c := range map[string]struct {
		l    []api.Event
		want []api.Move
	}{
		"none":           {nil, nil},
		"nothing moves":  {of(8, 8, 8), nil},
		"down and up":    {of(8, 7, 7, 5, 6), []api.Move{{At: 1, Way: -1}, {At: 3, Way: -1}, {At: 4, Way: 1}}},
		"tiers":          {tiers(2, 2, 0, 3), []api.Move{{At: 0, Tier: -1}, {At: 2, Tier: -2}, {At: 3, Tier: 3}}},
		"both":           {[]api.Event{closes(7, 2), closes(7, 3), closes(9, 3)}, []api.Move{{At: 0, Way: -1, Tier: -1}, {At: 1, Tier: 1}, {At: 2, Way: 1}}},
		"behind restart": {join(of(5), restart, of(8, 5), restart, of(9)), []api.Move{{At: 0, Way: -1}, {At: 3, Way: -1}, {At: 5, Way: 1}}},
		"others": {
			[]api.Event{kind(api.EvClose, 1), kind(api.EvCame, 2), closes(7, 3), kind(api.EvRestart, 1), kind(api.EvPush, 2), closes(7, 3), closes(6, 3)}, []api.Move{{At: 2, Way: -1}, {At: 6, Way: -1}},
		},
		"great numbers": {[]api.Event{closes(api.MinInt, api.MinInt), closes(api.MaxInt, api.MaxInt)}, []api.Move{{At: 0, Way: -1, Tier: api.MaxInt - 2}, {At: 1, Way: 1, Tier: -1}}},
	} {
		if got := dwell.Moves(2, 8, 3, c.l...); !slices.Equal(got, c.want) {
			t.Errorf("%s: %v, want %v", name, got, c.want)
		}
	}
	if got := dwell.Moves(0, 8, 3, of(5, 4)...); len(got) != 0 {
		t.Errorf("of another service: %v", got)
	}
}

func TestWrongWays(t *testing.T) {
	k := api.Knobs{Turn: 3, Dwell: 1}
	for name, c := range map[string]struct {
		l    []api.Event
		want api.Move // the zero one, if none is wrong
	}{
		"none":                 {nil, api.Move{}},
		"at once":              {of(7, 8), api.Move{At: 1, Way: 1}},
		"too early":            {of(7, 7, 8), api.Move{At: 2, Way: 1}},
		"in time":              {of(7, 7, 7, 8), api.Move{}},
		"since the first one":  {of(7, 6, 5, 6), api.Move{}},
		"not quite":            {of(7, 6, 7), api.Move{At: 2, Way: 1}},
		"the first one is up":  {of(9, 9, 8), api.Move{At: 2, Way: -1}},
		"the second turn":      {of(7, 7, 7, 8, 7), api.Move{At: 4, Way: -1}},
		"the second, in time":  {of(7, 7, 7, 8, 8, 8, 7), api.Move{}},
		"the same way":         {of(7, 6, 5, 4), api.Move{}},
		"a tier in between":    {[]api.Event{closes(7, 3), closes(7, 2), closes(6, 2), closes(7, 2)}, api.Move{}},
		"a tier, too early":    {[]api.Event{closes(7, 3), closes(7, 2), closes(8, 2)}, api.Move{At: 2, Way: 1}},
		"behind a restart":     {join(of(7), restart, of(9)), api.Move{}},
		"of the new life only": {join(of(7, 7, 7), restart, of(7, 8)), api.Move{At: 5, Way: 1}},
		"others' windows":      {join(of(7), []api.Event{kind(api.EvClose, 1), kind(api.EvClose, 1)}, of(8)), api.Move{At: 3, Way: 1}},
		"others' restarts":     {join(of(7), []api.Event{kind(api.EvRestart, 1)}, of(8)), api.Move{At: 2, Way: 1}},
		"a push is no restart": {join(of(7), []api.Event{kind(api.EvPush, 2)}, of(8)), api.Move{At: 2, Way: 1}},
	} {
		got, wrong := dwell.Wrong(2, 8, 3, k, c.l...)
		if got != c.want || wrong != (c.want != api.Move{}) {
			t.Errorf("%s: %v, %v; want %v", name, got, wrong, c.want)
		}
	}
	for _, turn := range []int{1, 0, -1, api.MinInt} {
		if got, wrong := dwell.Wrong(2, 8, 3, api.Knobs{Turn: turn}, of(7, 8, 7)...); got != (api.Move{}) || wrong {
			t.Errorf("Turn %d: %v", turn, got)
		}
	}
	if got, wrong := dwell.Wrong(2, 8, 3, api.Knobs{Turn: api.MaxInt}, of(7, 6, 5, 4, 5)...); got != (api.Move{At: 4, Way: 1}) || !wrong {
		t.Errorf("a great Turn: %v", got)
	}
}

func TestWrongTiers(t *testing.T) {
	k := api.Knobs{Turn: 1, Dwell: 2}
	for name, c := range map[string]struct {
		l    []api.Event
		want api.Move
	}{
		"the first one":     {tiers(2), api.Move{}},
		"too early":         {tiers(2, 1), api.Move{At: 1, Tier: -1}},
		"in time":           {tiers(2, 2, 1, 1, 0), api.Move{}},
		"since the last":    {tiers(2, 2, 1, 2), api.Move{At: 3, Tier: 1}},
		"a way in between":  {[]api.Event{closes(8, 2), closes(7, 2), closes(7, 1)}, api.Move{}},
		"behind a restart":  {join(tiers(2), restart, tiers(2)), api.Move{}},
		"with its way":      {[]api.Event{closes(8, 2), closes(7, 1)}, api.Move{At: 1, Way: -1, Tier: -1}},
		"counted by others": {join(tiers(2), []api.Event{kind(api.EvClose, 0)}, tiers(1)), api.Move{At: 2, Tier: -1}},
	} {
		got, wrong := dwell.Wrong(2, 8, 3, k, c.l...)
		if got != c.want || wrong != (c.want != api.Move{}) {
			t.Errorf("%s: %v, %v; want %v", name, got, wrong, c.want)
		}
	}
	if got, wrong := dwell.Wrong(2, 8, 3, api.Knobs{Turn: 1, Dwell: 1}, tiers(2, 1, 2, 3)...); wrong {
		t.Errorf("Dwell 1: %v", got)
	}
}

func TestExample(t *testing.T) {
	l := []api.Event{{Kind: api.EvClose, A: 7}, {Kind: api.EvClose, A: 8}}
	if got, wrong := dwell.Wrong(0, 8, 0, api.Knobs{Turn: 3, Dwell: 2}, l...); got != (api.Move{At: 1, Way: 1}) || !wrong {
		t.Errorf("%v, %v", got, wrong)
	}
}

func TestWindowsAndCalm(t *testing.T) {
	over := closes(8, 3)
	over.Code = api.Over
	push := []api.Event{kind(api.EvPush, 2)}
	others := []api.Event{kind(api.EvRestart, 1), kind(api.EvPush, 1), kind(api.EvClose, 1), kind(api.EvCame, 2)}
	for name, c := range map[string]struct {
		l             []api.Event
		windows, calm int
	}{
		"none":        {nil, 0, 0},
		"calm":        {join(of(8, 8), others, of(8)), 3, 3},
		"over at end": {append(of(8, 8), over), 3, 0},
		"over first":  {append([]api.Event{over}, of(8, 8)...), 3, 2},
		"restart":     {join(of(8, 8), restart, of(8)), 1, 1},
		"restart end": {join(of(8, 8), restart), 0, 0},
		"push":        {join(of(8, 8), push, of(8)), 3, 1},
		"push end":    {join(of(8, 8), push), 2, 0},
		"mid":         {append(of(8), api.Event{Kind: api.EvClose, S: 2}), 2, 0},
	} {
		if windows, calm := dwell.Windows(2, c.l...), dwell.Calm(2, c.l...); windows != c.windows || calm != c.calm {
			t.Errorf("%s: %d, %d", name, windows, calm)
		}
	}
	if dwell.Windows(0, of(8)...) != 0 || dwell.Calm(0, of(8)...) != 0 {
		t.Error("of another service")
	}
}

func TestNoMoveOfAControllerIsTooEarly(t *testing.T) {
	seed := uint32(71)
	next := func(k int) int {
		seed = seed*1664525 + 1013904223
		return int(seed>>16) % k
	}
	for range 200 {
		levels, tiers := 1+next(12), next(4)
		k := api.Knobs{Low: 3, High: 6, Cut: 1 + next(99), Lift: 1 + next(100), Floor: next(levels + 1), Turn: 1 + next(5), Dwell: 1 + next(5)}
		c, err := control.New(levels, tiers, k)
		if err != api.OK {
			t.Fatal(err)
		}
		var l []api.Event
		for range 80 {
			for range 4 {
				c.Saw(next(levels))
			}
			c.Waited(next(10))
			if next(30) == 0 {
				c.Restart()
				l = append(l, api.Event{Kind: api.EvRestart, A: c.Threshold(), Id: c.Epoch()})
				continue
			}
			x := c.Close()
			l = append(l, api.Event{Kind: api.EvClose, Id: x.Epoch, Code: x.Verdict, A: x.Threshold, B: x.Tier})
			if dwell.Calm(0, l...) >= calm.Worst(k, levels, tiers) && (x.Threshold != levels || x.Tier != tiers) {
				t.Fatalf("%v: not open after so many calm windows", k)
			}
		}
		if move, wrong := dwell.Wrong(0, levels, tiers, k, l...); wrong {
			t.Fatalf("%v: %v of %v", k, move, l)
		}
	}
}
