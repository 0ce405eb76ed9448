package shed_test

import (
	"slices"
	"testing"

	"lockkeeper/api"
	"lockkeeper/cluster"
	"lockkeeper/shed"
	"lockkeeper/site"
)

func ev(kind, tick, s, id, code, a, b int) api.Event {
	return api.Event{Kind: kind, Tick: tick, S: s, Id: id, Code: code, A: a, B: b}
}

func closes(tick, s, threshold, epoch int) api.Event {
	return ev(api.EvClose, tick, s, epoch, 1, threshold, 0)
}

func learns(tick, s, of, threshold, epoch int) api.Event {
	return ev(api.EvLearn, tick, s, epoch, 0, of, threshold)
}

func restarts(tick, s, threshold, epoch int) api.Event {
	return ev(api.EvRestart, tick, s, epoch, 0, threshold, 0)
}

func came(tick, s, id, level int) api.Event { return ev(api.EvCame, tick, s, id, 0, level, 8) }

func cut(tick, s, id, to int) api.Event { return ev(api.EvSkip, tick, s, id, api.Cut, to, 0) }

func TestPublished(t *testing.T) {
	l := []api.Event{closes(3, 2, 6, 4), learns(3, 2, 1, 9, 9), closes(4, 1, 5, 5), restarts(7, 2, 8, 5), ev(api.EvPush, 8, 2, 3, 1, 0, 0), closes(9, 2, 8, 5)}
	want := []api.Known{{To: 2, Threshold: 77, Epoch: 1}, {To: 2, Threshold: 6, Epoch: 4, At: 3}, {To: 2, Threshold: 8, Epoch: 5, At: 7}, {To: 2, Threshold: 8, Epoch: 5, At: 9}}
	if got := shed.Published(2, 77, l...); !slices.Equal(got, want) {
		t.Errorf("Published = %v", got)
	}
	if got := shed.Published(-4, -5); !slices.Equal(got, []api.Known{{To: -4, Threshold: -5, Epoch: 1}}) {
		t.Errorf("Published of none = %v", got)
	}
}

func TestTold(t *testing.T) {
	l := []api.Event{learns(3, 0, 2, 5, 4), learns(4, 1, 2, 6, 9), learns(5, 0, 2, 7, 3), learns(6, 0, 2, 7, 4), learns(6, 0, 9, 7, 4), restarts(7, 1, 8, 2)}
	for _, c := range []struct {
		s, to, ttl, tick int
		want             api.Known
		ok               bool
	}{
		{0, 2, 10, 16, api.Known{To: 2, Threshold: 5, Epoch: 4, At: 6}, true}, {0, 2, 10, 17, api.Known{}, false}, {0, 1, 10, 6, api.Known{}, false}, {0, 9, 10, 6, api.Known{}, false},
		{1, 2, 10, 7, api.Known{}, false}, {2, 2, 10, 7, api.Known{}, false}, {0, 2, -1, 6, api.Known{}, false}, {0, 2, api.MaxTicks + 1, 6, api.Known{}, false},
		{0, 2, 0, 6, api.Known{To: 2, Threshold: 5, Epoch: 4, At: 6}, true}, {0, 2, 0, 7, api.Known{}, false},
	} {
		if got, ok := shed.Told(c.s, c.to, c.ttl, c.tick, l...); got != c.want || ok != c.ok {
			t.Errorf("Told(%d, %d, %d, %d) = %v, %v", c.s, c.to, c.ttl, c.tick, got, ok)
		}
	}
	if got, ok := shed.Told(1, 2, 10, 7, l[:5]...); got != (api.Known{To: 2, Threshold: 6, Epoch: 9, At: 4}) || !ok {
		t.Errorf("ahead of the restart: %v, %v", got, ok)
	}
}

func TestCuts(t *testing.T) {
	l := []api.Event{cut(1, 0, 5, 1), cut(1, 1, 5, 0), ev(api.EvSkip, 1, 0, 5, api.Dimmed, 1, 0), ev(api.EvEnd, 1, 0, 5, api.Cut, 1, 0), cut(2, 0, 6, 1)}
	for s, want := range map[int]int{0: 2, 1: 1, 2: 0, -1: 0} {
		if got := shed.Cuts(s, l...); got != want {
			t.Errorf("Cuts(%d) = %d", s, got)
		}
	}
}

// three is a site of three services with 8 levels, whose announcements count for 10 ticks, but 5 at service 1.
func three(t *testing.T) api.Site {
	t.Helper()
	s, err := site.Usual(3)
	if err != api.OK {
		t.Fatal(err)
	}
	for i := range s.Services {
		s.Services[i].Ttl = 10
	}
	s.Services[1].Ttl = 5
	return s
}

func TestWrong(t *testing.T) {
	for name, c := range map[string]struct {
		l  []api.Event
		at int // of the wrong one; -1 if there is none
	}{
		"none":                     {nil, -1},
		"announced":                {[]api.Event{closes(1, 2, 3, 5), came(1, 0, 7, 3), learns(2, 0, 2, 3, 5), cut(2, 0, 7, 2)}, -1},
		"a level that passes":      {[]api.Event{closes(1, 2, 3, 5), came(1, 0, 7, 2), learns(2, 0, 2, 3, 5), cut(2, 0, 7, 2)}, 3},
		"not come":                 {[]api.Event{closes(1, 2, 3, 5), learns(2, 0, 2, 3, 5), cut(2, 0, 7, 2), came(2, 0, 7, 3)}, 2},
		"not come, none passes":    {[]api.Event{closes(1, 2, 0, 5), learns(2, 0, 2, 0, 5), cut(2, 0, 7, 2)}, 2},
		"come, none passes":        {[]api.Event{closes(1, 2, 0, 5), came(1, 0, 7, 0), learns(2, 0, 2, 0, 5), cut(2, 0, 7, 2)}, -1},
		"come elsewhere":           {[]api.Event{closes(1, 2, 3, 5), came(1, 1, 7, 3), learns(2, 0, 2, 3, 5), cut(2, 0, 7, 2)}, 3},
		"another one has come":     {[]api.Event{closes(1, 2, 3, 5), came(1, 0, 8, 3), learns(2, 0, 2, 3, 5), cut(2, 0, 7, 2)}, 3},
		"the last one that came":   {[]api.Event{closes(1, 2, 3, 5), came(1, 0, 7, 2), came(1, 0, 7, 3), learns(2, 0, 2, 3, 5), cut(2, 0, 7, 2), came(2, 0, 7, 2), cut(2, 0, 7, 2)}, 6},
		"not told":                 {[]api.Event{closes(1, 2, 3, 5), came(1, 0, 7, 3), cut(2, 0, 7, 2), learns(2, 0, 2, 3, 5)}, 2},
		"told to another one":      {[]api.Event{closes(1, 2, 3, 5), came(1, 0, 7, 3), learns(2, 1, 2, 3, 5), cut(2, 0, 7, 2)}, 3},
		"told of another one":      {[]api.Event{closes(1, 2, 3, 5), closes(1, 1, 3, 5), came(1, 0, 7, 3), learns(2, 0, 1, 3, 5), cut(2, 0, 7, 2)}, 4},
		"at the end of its time":   {[]api.Event{closes(1, 2, 3, 5), came(1, 0, 7, 3), learns(2, 0, 2, 3, 5), cut(12, 0, 7, 2), cut(13, 0, 7, 2)}, 4},
		"each by its own time":     {[]api.Event{closes(1, 2, 3, 5), came(1, 1, 7, 3), learns(2, 1, 2, 3, 5), cut(7, 1, 7, 2), cut(8, 1, 7, 2)}, 4},
		"forgotten by a restart":   {[]api.Event{closes(1, 2, 3, 5), came(1, 0, 7, 3), learns(2, 0, 2, 3, 5), restarts(2, 0, 8, 2), cut(2, 0, 7, 2)}, 4},
		"another one's restart":    {[]api.Event{closes(1, 2, 3, 5), came(1, 0, 7, 3), learns(2, 0, 2, 3, 5), restarts(2, 1, 8, 2), restarts(2, 2, 8, 6), cut(2, 0, 7, 2)}, -1},
		"not published":            {[]api.Event{came(1, 0, 7, 3), learns(2, 0, 2, 3, 5), cut(2, 0, 7, 2)}, 2},
		"published later":          {[]api.Event{came(1, 0, 7, 3), learns(2, 0, 2, 3, 5), cut(2, 0, 7, 2), closes(3, 2, 3, 5)}, 2},
		"published by another one": {[]api.Event{closes(1, 1, 3, 5), came(1, 0, 7, 3), learns(2, 0, 2, 3, 5), cut(2, 0, 7, 2)}, 3},
		"another epoch":            {[]api.Event{closes(1, 2, 3, 4), came(1, 0, 7, 3), learns(2, 0, 2, 3, 5), cut(2, 0, 7, 2)}, 3},
		"another threshold":        {[]api.Event{closes(1, 2, 4, 5), came(1, 0, 7, 3), learns(2, 0, 2, 3, 5), cut(2, 0, 7, 2)}, 3},
		"published by a restart":   {[]api.Event{restarts(1, 2, 3, 5), came(1, 0, 7, 3), learns(2, 0, 2, 3, 5), cut(2, 0, 7, 2)}, -1},
		"published at first":       {[]api.Event{came(1, 0, 7, 8), learns(2, 0, 2, 8, 1), cut(2, 0, 7, 2)}, -1},
		"no such service":          {[]api.Event{came(1, 3, 7, 8), learns(2, 3, 2, 8, 1), cut(2, 3, 7, 2)}, 2},
		"of the client":            {[]api.Event{came(1, -1, 7, 8), learns(2, -1, 2, 8, 1), cut(2, -1, 7, 2)}, 2},
		"for no such service":      {[]api.Event{came(1, 0, 7, 8), learns(2, 0, 5, 8, 1), closes(2, 5, 8, 1), cut(2, 0, 7, 5)}, 3},
		"for nobody":               {[]api.Event{came(1, 0, 7, 8), cut(2, 0, 7, -1)}, 1},
		"other skips":              {[]api.Event{ev(api.EvSkip, 1, 0, 7, api.Dimmed, 2, 0), ev(api.EvSkip, 1, 9, 7, api.Starved, 2, 0), ev(api.EvEnd, 1, 0, 7, api.Cut, 2, 0)}, -1},
	} {
		at, wrong := shed.Wrong(three(t), c.l...)
		if c.at < 0 && (at != 0 || wrong) || c.at >= 0 && (at != c.at || !wrong) {
			t.Errorf("%s: %d, %v; want %d", name, at, wrong, c.at)
		}
	}
}

func TestWrongOfSitesThatMayNotBe(t *testing.T) {
	s := three(t)
	s.Services[0].Ttl = -1
	l := []api.Event{closes(1, 2, 3, 5), came(1, 0, 7, 3), learns(2, 0, 2, 3, 5), cut(2, 0, 7, 2)}
	if at, wrong := shed.Wrong(s, l...); at != 3 || !wrong {
		t.Errorf("no such table: %d, %v", at, wrong)
	}
	if at, wrong := shed.Wrong(api.Site{}, l...); at != 3 || !wrong {
		t.Errorf("no services: %d, %v", at, wrong)
	}
}

func TestNoCutOfASiteIsWrong(t *testing.T) {
	s := three(t)
	for i := range s.Services {
		s.Services[i].Window = 2
		if len(s.Services[i].Calls) > 0 {
			s.Services[i].Tiers, s.Services[i].Calls[0].Tier = 1, 1
		}
	}
	c, err := cluster.New(s)
	if err != api.OK {
		t.Fatal(err)
	}
	seed := uint32(67)
	next := func(k int) int {
		seed = seed*1664525 + 1013904223
		return int(seed>>16) % k
	}
	var events []api.Event
	do := func(a api.Act) {
		more, _ := c.Do(a)
		events = append(events, more...)
	}
	for range 4000 {
		switch next(7) {
		case 0, 1:
			do(api.Act{Kind: api.ActAsk, S: next(3), Business: next(2), User: next(50), Ttl: 30, Budget: 20})
		case 2, 3, 4:
			if links := c.Links(); len(links) > 0 {
				link := links[next(len(links))]
				do(api.Act{Kind: api.ActDeliver, From: link[0], S: link[1], N: next(2)})
			}
		case 5:
			for id := range c.Services() {
				if jobs := c.Jobs(id); len(jobs) > 0 {
					do(api.Act{Kind: api.ActDone, S: id, Id: jobs[0].Item.Id})
				}
			}
		case 6:
			do(api.Act{Kind: api.ActTick})
			if next(50) == 0 {
				do(api.Act{Kind: api.ActRestart, S: next(3)})
			}
		}
	}
	if at, wrong := shed.Wrong(s, events...); wrong {
		t.Errorf("%v", events[at])
	}
	if shed.Cuts(0, events...)+shed.Cuts(1, events...) == 0 {
		t.Error("nothing to see: no call was cut")
	}
}
