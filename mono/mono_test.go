package mono_test

import (
	"slices"
	"testing"

	"lockkeeper/api"
	"lockkeeper/cluster"
	"lockkeeper/mono"
	"lockkeeper/site"
)

func came(s, level, code, threshold int) api.Event {
	return api.Event{Kind: api.EvCame, S: s, Id: 5, A: level, Code: code, B: threshold}
}

func kind(k, s int) api.Event { return api.Event{Kind: k, S: s} }

func TestRuns(t *testing.T) {
	const refused = api.Refused
	for name, x := range map[string]struct {
		l    []api.Event
		want []api.Run
	}{
		"none":                 {nil, nil},
		"only ends":            {[]api.Event{kind(api.EvClose, 0), kind(api.EvRestart, 0)}, nil},
		"passed":               {[]api.Event{came(0, 2, 0, 8)}, []api.Run{{From: 0, To: 0, Pass: 2, Stop: 128}}},
		"stopped":              {[]api.Event{came(0, 5, refused, 3)}, []api.Run{{From: 0, To: 0, Pass: -1, Stop: 5}}},
		"both":                 {[]api.Event{came(0, 2, 0, 3), came(0, 5, refused, 3)}, []api.Run{{From: 0, To: 1, Pass: 2, Stop: 5}}},
		"the greatest, least":  {[]api.Event{came(0, 1, 0, 3), came(0, 2, 0, 3), came(0, 0, 0, 3), came(0, 7, refused, 3), came(0, 5, refused, 3), came(0, 6, refused, 3)}, []api.Run{{From: 0, To: 5, Pass: 2, Stop: 5}}},
		"levels out of bounds": {[]api.Event{came(0, -9, 0, 3), came(0, 900, refused, 3)}, []api.Run{{From: 0, To: 1, Pass: -1, Stop: 128}}},
		"others in between": {
			[]api.Event{came(1, 9, 0, 3), kind(api.EvTwice, 0), came(0, 2, 0, 3), came(0, 1, api.Expired, 3), kind(api.EvClose, 1), kind(api.EvLearn, 0), came(0, 4, refused, 3), came(0, 0, 11, 3), kind(api.EvEnd, 0)},
			[]api.Run{{From: 2, To: 6, Pass: 2, Stop: 4}},
		},
		"ends": {
			[]api.Event{
				kind(api.EvPush, 0), came(0, 1, 0, 3), kind(api.EvClose, 0), came(0, 2, 0, 3), came(0, 3, 0, 3), kind(api.EvRestart, 0), kind(api.EvClose, 0), came(0, 4, refused, 3), kind(api.EvPush, 0), came(0, 5, 0, 3),
			},
			[]api.Run{{From: 1, To: 1, Pass: 1, Stop: 128}, {From: 3, To: 4, Pass: 3, Stop: 128}, {From: 7, To: 7, Pass: -1, Stop: 4}, {From: 9, To: 9, Pass: 5, Stop: 128}},
		},
	} {
		if got := mono.Runs(0, x.l...); !slices.Equal(got, x.want) {
			t.Errorf("%s: %v, want %v", name, got, x.want)
		}
	}
}

func TestWrong(t *testing.T) {
	const refused = api.Refused
	good := []api.Event{came(3, 2, 0, 3), came(3, 5, refused, 3)}
	if run, wrong := mono.Wrong(3, good...); run != (api.Run{}) || wrong {
		t.Errorf("%v, %v", run, wrong)
	}
	l := append(slices.Clone(good), came(3, 6, 0, 3))
	if run, wrong := mono.Wrong(3, l...); run != (api.Run{From: 0, To: 2, Pass: 6, Stop: 5}) || !wrong {
		t.Errorf("%v, %v", run, wrong)
	}
	if _, wrong := mono.Wrong(2, l...); wrong {
		t.Error("of another service")
	}
	// A level that both passed and did not is wrong as well.
	l = append(slices.Clone(good), kind(api.EvClose, 3), came(3, 4, 0, 3), came(3, 4, refused, 3), kind(api.EvClose, 3), came(3, 9, 0, 3), came(3, 0, refused, 3))
	if run, wrong := mono.Wrong(3, l...); run != (api.Run{From: 3, To: 4, Pass: 4, Stop: 4}) || !wrong {
		t.Errorf("%v, %v", run, wrong)
	}
	// Between windows the threshold may be another one.
	l = append(slices.Clone(good), kind(api.EvClose, 3), came(3, 6, 0, 8))
	if _, wrong := mono.Wrong(3, l...); wrong {
		t.Error("in two windows")
	}
}

func TestPassedAndLeast(t *testing.T) {
	l := []api.Event{came(0, 2, 0, 9), came(0, 5, api.Refused, -3), came(1, 2, 0, -7), came(0, 5, api.Expired, -8), came(0, 2, 0, 4), kind(api.EvClose, 0), came(0, 7, 0, 6), {Kind: api.EvEnd, B: -9}}
	if passed, stopped := mono.Passed(0, l...); passed != 3 || stopped != 1 {
		t.Errorf("Passed = %d, %d", passed, stopped)
	}
	if least, ok := mono.Least(0, l...); least != -3 || !ok {
		t.Errorf("Least = %d, %v", least, ok)
	}
	if least, ok := mono.Least(0, came(0, 2, 0, 9), came(0, 3, 0, 7), came(0, 2, 0, 8)); least != 7 || !ok {
		t.Errorf("Least = %d, %v", least, ok)
	}
	if passed, stopped := mono.Passed(2, l...); passed != 0 || stopped != 0 {
		t.Errorf("Passed of nobody = %d, %d", passed, stopped)
	}
	if least, ok := mono.Least(2, l...); least != 0 || ok {
		t.Errorf("Least of nobody = %d, %v", least, ok)
	}
}

func TestNoRunOfASiteIsWrong(t *testing.T) {
	s, _ := site.Usual(1)
	s.Services[0].Window = 3
	c, err := cluster.New(s)
	if err != api.OK {
		t.Fatal(err)
	}
	var events []api.Event
	do := func(a api.Act) {
		more, _ := c.Do(a)
		events = append(events, more...)
	}
	for i := range 400 {
		do(api.Act{Kind: api.ActAsk, Business: i % 2, User: i * i % 17, Ttl: 9, Budget: 7})
		do(api.Act{Kind: api.ActDeliver, From: -1, S: 0})
		do(api.Act{Kind: api.ActDeliver, From: 0, S: -1})
		if i%3 == 0 {
			do(api.Act{Kind: api.ActTick})
		}
		if jobs := c.Jobs(0); i%5 == 0 && len(jobs) > 0 {
			do(api.Act{Kind: api.ActDone, Id: jobs[0].Item.Id})
		}
	}
	if run, wrong := mono.Wrong(0, events...); wrong {
		t.Errorf("%v", run)
	}
	passed, stopped := mono.Passed(0, events...)
	if passed == 0 || stopped == 0 {
		t.Errorf("nothing to see: %d passed, %d did not", passed, stopped)
	}
	last := -1
	for _, run := range mono.Runs(0, events...) {
		if run.From <= last || run.To < run.From {
			t.Errorf("%v behind %d", run, last)
		}
		last = run.To
	}
}
