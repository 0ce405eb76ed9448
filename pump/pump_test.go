package pump_test

import (
	"slices"
	"testing"

	"lockkeeper/api"
	"lockkeeper/cluster"
	"lockkeeper/pump"
	"lockkeeper/site"
)

func made(t *testing.T, services int) *cluster.Cluster {
	t.Helper()
	s, err := site.Usual(services)
	if err != api.OK {
		t.Fatal(err)
	}
	c, err := cluster.New(s)
	if err != api.OK {
		t.Fatal(err)
	}
	return c
}

func ask(s int) api.Act { return api.Act{Kind: api.ActAsk, S: s, User: 1, Ttl: 30, Budget: 20} }

func deliver(from, to int) api.Act { return api.Act{Kind: api.ActDeliver, From: from, S: to} }

func done(s, id int) api.Act { return api.Act{Kind: api.ActDone, S: s, Id: id} }

var tick = api.Act{Kind: api.ActTick}

func next(t *testing.T, c *cluster.Cluster, want api.Act, ok bool) {
	t.Helper()
	if got, found := pump.Next(c); got != want || found != ok {
		t.Errorf("Next = %v, %v; want %v, %v", got, found, want, ok)
	}
	if pump.Quiet(c) == ok {
		t.Errorf("Quiet = %v", !ok)
	}
}

func TestExample(t *testing.T) {
	c := made(t, 1)
	next(t, c, api.Act{}, false)
	c.Do(ask(0))
	next(t, c, deliver(-1, 0), true)
	acts, events := pump.Run(c, 100)
	if !slices.Equal(acts, []api.Act{deliver(-1, 0), done(0, 1), deliver(0, -1)}) {
		t.Errorf("acts: %v", acts)
	}
	var kinds []int
	for _, v := range events {
		kinds = append(kinds, v.Kind)
	}
	if !slices.Equal(kinds, []int{api.EvCame, api.EvStart, api.EvEnd, api.EvAnswer}) {
		t.Errorf("events: %v", events)
	}
	next(t, c, api.Act{}, false)
}

func TestWhatArrivesComesAheadOfWork(t *testing.T) {
	c := made(t, 3)
	for _, s := range []int{2, 1, 0, 0, 1} {
		c.Do(ask(s))
	}
	// The first link is that of the client to 0.
	next(t, c, deliver(-1, 0), true)
	c.Do(deliver(-1, 0))
	c.Do(deliver(-1, 2))
	next(t, c, deliver(-1, 0), true)
	c.Do(deliver(-1, 0))
	next(t, c, deliver(-1, 1), true)
	c.Do(deliver(-1, 1))
	c.Do(deliver(-1, 1))
	// Nothing is on its way, so the least service works: 3 came there first.
	next(t, c, done(0, 3), true)
	c.Do(done(0, 3))
	// Its job waits for a call, so the next one that works is that of service 1.
	next(t, c, deliver(0, 1), true)
	c.Do(deliver(0, 1))
	next(t, c, done(1, 2), true)
}

func TestPlacesOfJobs(t *testing.T) {
	s, _ := site.Usual(2)
	s.Services[0].Workers = 3
	c, err := cluster.New(s)
	if err != api.OK {
		t.Fatal(err)
	}
	for range 3 {
		c.Do(ask(0))
		c.Do(deliver(-1, 0))
	}
	c.Do(done(0, 1))
	c.Do(deliver(0, 1))
	// The job at the first place waits for its call.
	next(t, c, done(0, 2), true)
	c.Do(done(0, 2))
	c.Do(deliver(0, 1))
	c.Do(done(0, 3))
	c.Do(deliver(0, 1))
	next(t, c, done(1, api.MaxNumber+1), true)
}

func TestRunPerformsSoManyActs(t *testing.T) {
	for _, most := range []int{-5, 0, api.MinInt} {
		c := made(t, 1)
		c.Do(ask(0))
		if acts, events := pump.Run(c, most); len(acts) != 0 || len(events) != 0 || pump.Quiet(c) {
			t.Errorf("Run(%d) = %v, %v", most, acts, events)
		}
	}
	whole, parts := made(t, 3), made(t, 3)
	for _, c := range []*cluster.Cluster{whole, parts} {
		for i := range 12 {
			c.Do(ask(i % 3))
		}
	}
	acts, events := pump.Run(whole, api.MaxInt)
	if !pump.Quiet(whole) || len(acts) == 0 {
		t.Fatalf("%d acts", len(acts))
	}
	var partActs []api.Act
	var partEvents []api.Event
	for most := 1; ; most++ {
		moreActs, moreEvents := pump.Run(parts, most)
		partActs, partEvents = append(partActs, moreActs...), append(partEvents, moreEvents...)
		if len(moreActs) > most {
			t.Fatalf("%d acts of %d", len(moreActs), most)
		}
		if len(moreActs) < most {
			break
		}
	}
	if !pump.Quiet(parts) || !slices.Equal(acts, partActs) || !slices.Equal(events, partEvents) {
		t.Error("in parts it is not the same")
	}
}

func TestRunEnds(t *testing.T) {
	c := made(t, 1)
	for range 64 {
		c.Do(ask(0))
		c.Do(api.Act{Kind: api.ActTwin, From: -1, S: 0})
	}
	acts, _ := pump.Run(c, api.MaxInt)
	if len(acts) >= api.MaxScript || !pump.Quiet(c) {
		t.Errorf("%d acts", len(acts))
	}
}

func TestTicks(t *testing.T) {
	c, twin := made(t, 2), made(t, 2)
	c.Do(ask(0))
	twin.Do(ask(0))
	var wantActs []api.Act
	var wantEvents []api.Event
	for range 15 {
		more, _ := twin.Do(tick)
		wantActs, wantEvents = append(wantActs, tick), append(wantEvents, more...)
		acts, events := pump.Run(twin, 2)
		wantActs, wantEvents = append(wantActs, acts...), append(wantEvents, events...)
	}
	acts, events := pump.Ticks(c, 15, 2)
	if !slices.Equal(acts, wantActs) || !slices.Equal(events, wantEvents) || c.Now() != 15 {
		t.Errorf("Ticks: %v, %v", acts, events)
	}
	for _, ticks := range []int{-1, 0, api.MinInt} {
		if acts, events := pump.Ticks(c, ticks, 9); len(acts) != 0 || len(events) != 0 || c.Now() != 15 {
			t.Errorf("Ticks(%d) = %v, %v", ticks, acts, events)
		}
	}
	if acts, _ := pump.Ticks(c, api.MaxInt, api.MaxInt); len(acts) != 4000 || c.Now() != 4015 {
		t.Errorf("as many as there may be: %d, %d", len(acts), c.Now())
	}
	c.Do(ask(0))
	if acts, _ := pump.Ticks(c, 2, -1); !slices.Equal(acts, []api.Act{tick, tick}) {
		t.Errorf("ticks alone: %v", acts)
	}
}

func TestPlayLeavesOutWhatIsRefused(t *testing.T) {
	c, twin := made(t, 2), made(t, 2)
	l := []api.Act{ask(0), ask(9), deliver(-1, 0), deliver(-1, 0), tick, {}, done(0, 1), done(0, 1)}
	given := slices.Clone(l)
	acts, events := pump.Play(c, l...)
	if !slices.Equal(acts, []api.Act{ask(0), deliver(-1, 0), tick, done(0, 1)}) {
		t.Errorf("acts: %v", acts)
	}
	var want []api.Event
	for _, a := range acts {
		more, err := twin.Do(a)
		if err != api.OK {
			t.Errorf("%v: %v", a, err)
		}
		want = append(want, more...)
	}
	if !slices.Equal(events, want) || !slices.Equal(l, given) {
		t.Errorf("events: %v", events)
	}
	if acts, events := pump.Play(c); len(acts) != 0 || len(events) != 0 {
		t.Errorf("Play of none: %v, %v", acts, events)
	}
}

func TestActsOfRunsArePlayedAgain(t *testing.T) {
	c, twin := made(t, 4), made(t, 4)
	for i := range 20 {
		c.Do(ask(i % 4))
		twin.Do(ask(i % 4))
	}
	acts, events := pump.Ticks(c, 40, 3)
	again, eventsAgain := pump.Play(twin, acts...)
	if !slices.Equal(acts, again) || !slices.Equal(events, eventsAgain) {
		t.Error("played again, it is not the same")
	}
}

func TestNilAndZero(t *testing.T) {
	for _, c := range []*cluster.Cluster{nil, {}} {
		next(t, c, api.Act{}, false)
		if acts, events := pump.Run(c, 9); len(acts) != 0 || len(events) != 0 {
			t.Errorf("Run: %v, %v", acts, events)
		}
		if acts, events := pump.Ticks(c, 9, 9); len(acts) != 0 || len(events) != 0 {
			t.Errorf("Ticks: %v, %v", acts, events)
		}
		if acts, events := pump.Play(c, tick); len(acts) != 0 || len(events) != 0 {
			t.Errorf("Play: %v, %v", acts, events)
		}
	}
}
