package knob_test

import (
	"slices"
	"testing"

	"lockkeeper/api"
	"lockkeeper/knob"
)

var usual = api.Knobs{Low: 1, High: 4, Cut: 10, Lift: 5, Floor: 1, Turn: 3, Dwell: 2}

func TestCheck(t *testing.T) {
	with := func(change func(k *api.Knobs)) api.Knobs {
		k := usual
		change(&k)
		return k
	}
	for _, c := range []struct {
		k      api.Knobs
		levels int
		want   api.Errno
	}{
		{usual, 1, api.OK}, {usual, 128, api.OK}, {usual, 0, api.ErrConf}, {usual, -1, api.ErrConf}, {usual, 129, api.ErrConf}, {usual, api.MaxInt, api.ErrConf},
		{api.Knobs{}, 8, api.ErrConf},
		{with(func(k *api.Knobs) { k.Low = 0 }), 8, api.OK}, {with(func(k *api.Knobs) { k.Low = -1 }), 8, api.ErrConf},
		{with(func(k *api.Knobs) { k.Low = 4 }), 8, api.OK}, {with(func(k *api.Knobs) { k.Low = 5 }), 8, api.ErrConf},
		{with(func(k *api.Knobs) { k.High = 1 }), 8, api.OK}, {with(func(k *api.Knobs) { k.High = 0 }), 8, api.ErrConf},
		{with(func(k *api.Knobs) { k.High = 10000 }), 8, api.OK}, {with(func(k *api.Knobs) { k.High = 10001 }), 8, api.ErrConf},
		{with(func(k *api.Knobs) { k.Low, k.High = 0, 0 }), 8, api.OK}, {with(func(k *api.Knobs) { k.Low, k.High = 10001, 10001 }), 8, api.ErrConf},
		{with(func(k *api.Knobs) { k.Cut = 1 }), 8, api.OK}, {with(func(k *api.Knobs) { k.Cut = 0 }), 8, api.ErrConf},
		{with(func(k *api.Knobs) { k.Cut = 99 }), 8, api.OK}, {with(func(k *api.Knobs) { k.Cut = 100 }), 8, api.ErrConf},
		{with(func(k *api.Knobs) { k.Lift = 1 }), 8, api.OK}, {with(func(k *api.Knobs) { k.Lift = 0 }), 8, api.ErrConf},
		{with(func(k *api.Knobs) { k.Lift = 100 }), 8, api.OK}, {with(func(k *api.Knobs) { k.Lift = 101 }), 8, api.ErrConf},
		{with(func(k *api.Knobs) { k.Floor = 0 }), 8, api.OK}, {with(func(k *api.Knobs) { k.Floor = -1 }), 8, api.ErrConf},
		{with(func(k *api.Knobs) { k.Floor = 8 }), 8, api.OK}, {with(func(k *api.Knobs) { k.Floor = 9 }), 8, api.ErrConf},
		{with(func(k *api.Knobs) { k.Turn = 1 }), 8, api.OK}, {with(func(k *api.Knobs) { k.Turn = 0 }), 8, api.ErrConf},
		{with(func(k *api.Knobs) { k.Turn = 32 }), 8, api.OK}, {with(func(k *api.Knobs) { k.Turn = 33 }), 8, api.ErrConf},
		{with(func(k *api.Knobs) { k.Dwell = 1 }), 8, api.OK}, {with(func(k *api.Knobs) { k.Dwell = 0 }), 8, api.ErrConf},
		{with(func(k *api.Knobs) { k.Dwell = 32 }), 8, api.OK}, {with(func(k *api.Knobs) { k.Dwell = 33 }), 8, api.ErrConf},
		{with(func(k *api.Knobs) { k.Low = api.MinInt }), 8, api.ErrConf}, {with(func(k *api.Knobs) { k.High = api.MaxInt }), 8, api.ErrConf},
	} {
		if got := knob.Check(c.k, c.levels); got != c.want {
			t.Errorf("Check(%v, %d) = %v", c.k, c.levels, got)
		}
	}
}

func TestUsualNamesAndValues(t *testing.T) {
	for _, levels := range []int{-1, 0, 1, 128, api.MaxInt} {
		if got := knob.Usual(levels); got != usual {
			t.Errorf("Usual(%d) = %v", levels, got)
		}
	}
	names := []string{"low", "high", "cut", "lift", "floor", "turn", "dwell"}
	if got := knob.Names(); !slices.Equal(got, names) {
		t.Errorf("Names = %v", got)
	}
	knob.Names()[0] = "changed"
	if got := knob.Names(); !slices.Equal(got, names) {
		t.Errorf("Names are shared: %v", got)
	}
	if got := knob.Values(usual); !slices.Equal(got, []int{1, 4, 10, 5, 1, 3, 2}) {
		t.Errorf("Values = %v", got)
	}
}

func TestSet(t *testing.T) {
	for i, name := range knob.Names() {
		got, err := knob.Set(usual, name, -77)
		want := knob.Values(usual)
		want[i] = -77
		if !slices.Equal(knob.Values(got), want) || err != api.OK {
			t.Errorf("Set(%s) = %v, %v", name, got, err)
		}
	}
	for _, name := range []string{"", "Low", "low ", "mean", "lo"} {
		if got, err := knob.Set(usual, name, 1); got != (api.Knobs{}) || err != api.ErrNone {
			t.Errorf("Set(%q) = %v, %v", name, got, err)
		}
	}
}

func TestText(t *testing.T) {
	for s, k := range map[string]api.Knobs{
		"low=1 high=4 cut=10 lift=5 floor=1 turn=3 dwell=2":                                     usual,
		"low=0 high=0 cut=0 lift=0 floor=0 turn=0 dwell=0":                                      {},
		"low=-1 high=-2 cut=-3 lift=-4 floor=-5 turn=-6 dwell=7":                                {Low: -1, High: -2, Cut: -3, Lift: -4, Floor: -5, Turn: -6, Dwell: 7},
		"low=9223372036854775807 high=-9223372036854775808 cut=1 lift=1 floor=1 turn=1 dwell=1": {Low: api.MaxInt, High: api.MinInt, Cut: 1, Lift: 1, Floor: 1, Turn: 1, Dwell: 1},
	} {
		if got := knob.Text(k); got != s {
			t.Errorf("Text(%v) = %q", k, got)
		}
		if got, err := knob.Parse(s); got != k || err != api.OK {
			t.Errorf("Parse(%q) = %v, %v", s, got, err)
		}
	}
}

func TestParse(t *testing.T) {
	if got, err := knob.Parse("\tlow=1  high=4 cut=10 lift=5 floor=1 turn=3 dwell=2 # as usual"); got != usual || err != api.OK {
		t.Errorf("blanks and a comment: %v, %v", got, err)
	}
	for _, s := range []string{
		"", "low=1", "low=1 high=4 cut=10 lift=5 floor=1 turn=3", "low=1 high=4 cut=10 lift=5 floor=1 turn=3 dwell=2 more=1",
		"high=4 low=1 cut=10 lift=5 floor=1 turn=3 dwell=2", "low=01 high=4 cut=10 lift=5 floor=1 turn=3 dwell=2", "low= high=4 cut=10 lift=5 floor=1 turn=3 dwell=2",
		"low=1 high=4 cut=10 lift=5 floor=1 turn=3 dwell=2=", "low 1 high=4 cut=10 lift=5 floor=1 turn=3", "low:1 high=4 cut=10 lift=5 floor=1 turn=3 dwell=2",
		"Low=1 high=4 cut=10 lift=5 floor=1 turn=3 dwell=2", "low=1 high=4 cut=10 lift=5 floor=1 turn=3 #dwell=2", "low=1\nhigh=4 cut=10 lift=5 floor=1 turn=3 dwell=2",
	} {
		if got, err := knob.Parse(s); got != (api.Knobs{}) || err != api.ErrForm {
			t.Errorf("Parse(%q) = %v, %v", s, got, err)
		}
	}
}
