package cluster_test

import (
	"slices"
	"testing"

	"lockkeeper/api"
	"lockkeeper/cluster"
	"lockkeeper/frame"
	"lockkeeper/knob"
	"lockkeeper/node"
	"lockkeeper/site"
	"lockkeeper/user"
)

func usual(t *testing.T, services int) api.Site {
	t.Helper()
	s, err := site.Usual(services)
	if err != api.OK {
		t.Fatal(err)
	}
	return s
}

func made(t *testing.T, s api.Site) *cluster.Cluster {
	t.Helper()
	c, err := cluster.New(s)
	if c == nil || err != api.OK {
		t.Fatalf("New: %v", err)
	}
	return c
}

func do(t *testing.T, c *cluster.Cluster, a api.Act, want ...api.Event) {
	t.Helper()
	if events, err := c.Do(a); err != api.OK || !slices.Equal(events, want) {
		t.Errorf("Do(%v) = %v, %v; want %v", a, events, err, want)
	}
}

func refused(t *testing.T, c *cluster.Cluster, a api.Act, want api.Errno) {
	t.Helper()
	if events, err := c.Do(a); err != want || len(events) != 0 {
		t.Errorf("Do(%v) = %v, %v; want %v", a, events, err, want)
	}
}

// askFirst asks service 0, as user 1 of business 0; in the usual site this user's class is classOf1.
var askFirst = api.Act{Kind: api.ActAsk, User: 1, Ttl: 30, Budget: 5}

func classOf1(t *testing.T, now int) int {
	t.Helper()
	u, err := user.New(1, 4, 1000)
	if err != api.OK {
		t.Fatal(err)
	}
	return u.Class(1, now)
}

func deliver(from, to, place int) api.Act {
	return api.Act{Kind: api.ActDeliver, From: from, S: to, N: place}
}

func TestNew(t *testing.T) {
	c := made(t, usual(t, 3))
	if c.Now() != 0 || c.Services() != 3 || c.Levels() != 8 || len(c.Links()) != 0 {
		t.Error("not at the beginning")
	}
	for s := -1; s <= 3; s++ {
		threshold, tier, epoch := 8, 1, 1
		if s < 0 || s > 2 {
			threshold, tier, epoch = 0, 0, 0
		}
		if c.Threshold(s) != threshold || c.Tier(s) != tier || c.Epoch(s) != epoch || c.Calm(s) != 0 || len(c.Queue(s)) != 0 || len(c.Jobs(s)) != 0 || len(c.Known(s)) != 0 {
			t.Errorf("service %d", s)
		}
	}
	loop := usual(t, 2)
	loop.Services[1].Calls = []api.Call{{To: 0, Weight: 1, Most: 1}}
	for _, x := range []struct {
		s    api.Site
		want api.Errno
	}{{api.Site{}, api.ErrConf}, {loop, api.ErrLoop}} {
		if c, err := cluster.New(x.s); c != nil || err != x.want {
			t.Errorf("New(%v): %v", x.s, err)
		}
	}
}

func TestExample(t *testing.T) {
	c := made(t, usual(t, 1))
	l := classOf1(t, 0)
	do(t, c, askFirst, api.Event{Kind: api.EvAsk, Id: 1, A: l, B: 30})
	if f, err := c.At(-1, 0, 0); err != api.OK || f != (api.Frame{Kind: 1, Request: api.Request{Id: 1, From: -1, To: 0, Level: l, Deadline: 30, Budget: 5}}) {
		t.Errorf("on its way: %v, %v", f, err)
	}
	do(t, c, deliver(-1, 0, 0), api.Event{Kind: api.EvCame, Id: 1, A: l, B: 8}, api.Event{Kind: api.EvStart, Id: 1, B: 30})
	if len(c.Links()) != 0 || len(c.Jobs(0)) != 1 {
		t.Errorf("links %v, jobs %v", c.Links(), c.Jobs(0))
	}
	do(t, c, api.Act{Kind: api.ActDone, Id: 1}, api.Event{Kind: api.EvEnd, Id: 1, Code: api.Good, A: l})
	if !slices.Equal(c.Links(), [][2]int{{0, -1}}) {
		t.Errorf("links %v", c.Links())
	}
	if f, err := c.At(0, -1, 0); err != api.OK || f != (api.Frame{Kind: 2, Reply: api.Reply{Id: 1, From: 0, To: -1, Code: api.Good, Threshold: 8, Epoch: 1, Tier: 1}}) {
		t.Errorf("on its way: %v, %v", f, err)
	}
	do(t, c, deliver(0, -1, 0), api.Event{Kind: api.EvAnswer, Id: 1, Code: api.Good})
	if len(c.Links()) != 0 {
		t.Errorf("links %v", c.Links())
	}
}

func TestActsThatAreWrong(t *testing.T) {
	c := made(t, usual(t, 1))
	for _, a := range []api.Act{{}, {Kind: 11}, {Kind: -1}, {Kind: api.ActTick, S: 1}, {Kind: api.ActDone, N: 1}, {Kind: api.ActAsk, S: 9, Id: 1}} {
		refused(t, c, a, api.ErrArg)
	}
}

func TestAsk(t *testing.T) {
	s := usual(t, 2)
	c := made(t, s)
	for _, x := range []struct {
		change func(a *api.Act)
		want   api.Errno
	}{
		{func(a *api.Act) { a.S = 2 }, api.ErrNone}, {func(a *api.Act) { a.S = -1 }, api.ErrNone}, {func(a *api.Act) { a.S, a.Business = 2, 9 }, api.ErrNone},
		{func(a *api.Act) { a.Business = 2 }, api.ErrArg}, {func(a *api.Act) { a.Business = -1 }, api.ErrArg}, {func(a *api.Act) { a.Ttl = -1 }, api.ErrArg},
		{func(a *api.Act) { a.Ttl = api.MaxTicks + 1 }, api.ErrArg}, {func(a *api.Act) { a.Budget = -1 }, api.ErrArg}, {func(a *api.Act) { a.Budget = 65536 }, api.ErrArg},
	} {
		a := askFirst
		x.change(&a)
		refused(t, c, a, x.want)
	}
	// What was refused is not counted.
	do(t, c, askFirst, api.Event{Kind: api.EvAsk, Id: 1, A: classOf1(t, 0), B: 30})
	// Nothing to wait, and nothing left, may be asked all the same.
	do(t, c, api.Act{Kind: api.ActAsk, User: 1}, api.Event{Kind: api.EvAsk, Id: 2, A: classOf1(t, 0)})
	u, _ := user.New(s.Key, s.Classes, s.Rotate)
	for range 1000 {
		c.Do(api.Act{Kind: api.ActTick})
	}
	for i, who := range []int{0, 1, -1, api.MaxInt, api.MinInt} {
		a := api.Act{Kind: api.ActAsk, S: 1, Business: 1, User: who, Ttl: api.MaxTicks, Budget: 65535}
		l := 4 + u.Class(uint64(who), 1000)
		do(t, c, a, api.Event{Kind: api.EvAsk, Tick: 1000, S: 1, Id: 3 + i, A: l, B: api.MaxTicks})
		if f, err := c.At(-1, 1, i); err != api.OK || f != (api.Frame{Kind: 1, Request: api.Request{Id: 3 + i, From: -1, To: 1, Level: l, Deadline: api.MaxTicks, Budget: 65535}}) {
			t.Errorf("on its way: %v, %v", f, err)
		}
	}
}

func TestTick(t *testing.T) {
	s := usual(t, 3)
	for i := range s.Services {
		s.Services[i].Window = i + 1
	}
	c := made(t, s)
	closed := func(s int) api.Event {
		return api.Event{Kind: api.EvClose, Tick: c.Now() + 1, S: s, Id: 1, Code: api.Calm, A: 8, B: 1}
	}
	tick := api.Act{Kind: api.ActTick}
	do(t, c, tick, closed(0))
	do(t, c, tick, closed(0), closed(1))
	do(t, c, tick, closed(0), closed(2))
	if c.Now() != 3 {
		t.Errorf("now %d", c.Now())
	}
}

func TestDoneFailAndRestart(t *testing.T) {
	c := made(t, usual(t, 2))
	for _, kind := range []int{api.ActDone, api.ActFail} {
		refused(t, c, api.Act{Kind: kind, S: 2, Id: 1}, api.ErrNone)
		refused(t, c, api.Act{Kind: kind, S: -1, Id: 1}, api.ErrNone)
		refused(t, c, api.Act{Kind: kind, S: 0, Id: 1}, api.ErrNone)
	}
	refused(t, c, api.Act{Kind: api.ActRestart, S: 2}, api.ErrNone)
	refused(t, c, api.Act{Kind: api.ActRestart, S: -1}, api.ErrNone)
	for range 3 {
		c.Do(askFirst)
		c.Do(deliver(-1, 0, 0))
	}
	l := classOf1(t, 0)
	do(t, c, api.Act{Kind: api.ActFail, Id: 1}, api.Event{Kind: api.EvEnd, Id: 1, Code: api.Broken, A: l}, api.Event{Kind: api.EvStart, Id: 2, B: 30})
	do(t, c, api.Act{Kind: api.ActDone, Id: 2}, api.Event{Kind: api.EvCall, Id: 2, A: 1, B: api.MaxNumber + 1})
	refused(t, c, api.Act{Kind: api.ActDone, Id: 2}, api.ErrState)
	refused(t, c, api.Act{Kind: api.ActFail, Id: 2}, api.ErrState)
	if !slices.Equal(c.Links(), [][2]int{{0, -1}, {0, 1}}) {
		t.Errorf("links %v", c.Links())
	}
	do(t, c, api.Act{Kind: api.ActRestart}, api.Event{Kind: api.EvErase, Id: 3, A: l}, api.Event{Kind: api.EvErase, Id: 2, A: l}, api.Event{Kind: api.EvRestart, Id: 2, A: 8})
	if c.Epoch(0) != 2 || c.Epoch(1) != 1 {
		t.Errorf("epochs %d, %d", c.Epoch(0), c.Epoch(1))
	}
}

func TestACallOfAnotherService(t *testing.T) {
	c := made(t, usual(t, 2))
	l := classOf1(t, 0)
	c.Do(askFirst)
	c.Do(deliver(-1, 0, 0))
	c.Do(api.Act{Kind: api.ActDone, Id: 1})
	const number = api.MaxNumber + 1
	do(t, c, deliver(0, 1, 0), api.Event{Kind: api.EvCame, S: 1, Id: number, A: l, B: 8}, api.Event{Kind: api.EvStart, S: 1, Id: number, B: 22})
	do(t, c, api.Act{Kind: api.ActDone, S: 1, Id: number}, api.Event{Kind: api.EvEnd, S: 1, Id: number, Code: api.Good, A: l})
	do(t, c, deliver(1, 0, 0), api.Event{Kind: api.EvLearn, Id: 1, A: 1, B: 8}, api.Event{Kind: api.EvHeard, Id: number, Code: api.Good, A: 1, B: 1}, api.Event{Kind: api.EvEnd, Id: 1, Code: api.Good, A: l})
	if known := c.Known(0); !slices.Equal(known, []api.Known{{To: 1, Threshold: 8, Epoch: 1}}) || len(c.Known(1)) != 0 {
		t.Errorf("known: %v", known)
	}
	do(t, c, deliver(0, -1, 0), api.Event{Kind: api.EvAnswer, Id: 1, Code: api.Good})
}

func TestDropAndTwin(t *testing.T) {
	c := made(t, usual(t, 2))
	for _, kind := range []int{api.ActDeliver, api.ActDrop, api.ActTwin} {
		for _, x := range [][3]int{{-1, 0, 0}, {0, 0, 0}, {-1, -1, 0}, {2, 0, 0}, {-1, 2, 0}, {-1, 0, -1}} {
			refused(t, c, api.Act{Kind: kind, From: x[0], S: x[1], N: x[2]}, api.ErrNone)
		}
	}
	c.Do(askFirst)
	c.Do(askFirst)
	do(t, c, api.Act{Kind: api.ActTwin, From: -1, S: 0, N: 0})
	do(t, c, api.Act{Kind: api.ActDrop, From: -1, S: 0, N: 1}, api.Event{Kind: api.EvLost, S: -1, Id: 2, Code: 1, A: -1, B: 0})
	refused(t, c, api.Act{Kind: api.ActDrop, From: -1, S: 0, N: 2}, api.ErrNone)
	c.Do(deliver(-1, 0, 1))
	do(t, c, deliver(-1, 0, 0), api.Event{Kind: api.EvTwice, Id: 1})
	c.Do(api.Act{Kind: api.ActFail, Id: 1})
	do(t, c, api.Act{Kind: api.ActDrop, From: 0, S: -1, N: 0}, api.Event{Kind: api.EvLost, S: 0, Id: 1, Code: 2, A: 0, B: -1})
	k := knob.Usual(8)
	c.Do(api.Act{Kind: api.ActPush, S: 1, Version: 6, Knobs: k})
	do(t, c, api.Act{Kind: api.ActDrop, From: -1, S: 1, N: 0}, api.Event{Kind: api.EvLost, S: -1, Id: 6, Code: 3, A: -1, B: 1})
}

func TestLinksThatAreFull(t *testing.T) {
	c := made(t, usual(t, 2))
	for range 64 {
		c.Do(askFirst)
	}
	l := classOf1(t, 0)
	do(t, c, askFirst, api.Event{Kind: api.EvAsk, Id: 65, A: l, B: 30}, api.Event{Kind: api.EvLost, S: -1, Id: 65, Code: 1, A: -1, B: 0})
	refused(t, c, api.Act{Kind: api.ActTwin, From: -1, S: 0, N: 5}, api.ErrFull)
	refused(t, c, api.Act{Kind: api.ActTwin, From: -1, S: 0, N: 64}, api.ErrNone)
	do(t, c, api.Act{Kind: api.ActPush, S: 0, Version: 3, Knobs: knob.Usual(8)}, api.Event{Kind: api.EvLost, S: -1, Id: 3, Code: 3, A: -1, B: 0})
	f, _ := c.At(-1, 0, 0)
	bytes, _ := frame.Encode(f)
	refused(t, c, api.Act{Kind: api.ActRaw, From: -1, S: 0, Bytes: bytes}, api.ErrFull)
	// A reply for which there is no room is lost behind the events.
	c.Do(deliver(-1, 0, 0))
	for range 64 {
		c.Do(api.Act{Kind: api.ActRaw, From: 0, S: -1, Bytes: encoded(t, api.Frame{Kind: 2, Reply: api.Reply{Id: 9, From: 0, To: -1, Code: 1}})})
	}
	do(t, c, api.Act{Kind: api.ActFail, Id: 1}, api.Event{Kind: api.EvEnd, Id: 1, Code: api.Broken, A: l}, api.Event{Kind: api.EvLost, S: 0, Id: 1, Code: 2, A: 0, B: -1})
}

func TestPush(t *testing.T) {
	c := made(t, usual(t, 2))
	k := knob.Usual(8)
	refused(t, c, api.Act{Kind: api.ActPush, S: 2, Version: -1}, api.ErrNone)
	refused(t, c, api.Act{Kind: api.ActPush, S: -1, Version: 1, Knobs: k}, api.ErrNone)
	refused(t, c, api.Act{Kind: api.ActPush, S: 1, Version: -1, Knobs: k}, api.ErrArg)
	refused(t, c, api.Act{Kind: api.ActPush, S: 1, Version: api.MaxEpoch + 1, Knobs: k}, api.ErrArg)
	bad := k
	bad.Turn = 256
	refused(t, c, api.Act{Kind: api.ActPush, S: 1, Version: 1, Knobs: bad}, api.ErrArg)
	bad.Turn = 255
	do(t, c, api.Act{Kind: api.ActPush, S: 1, Version: 1, Knobs: bad})
	do(t, c, api.Act{Kind: api.ActPush, S: 1, Version: 2, Knobs: k})
	do(t, c, deliver(-1, 1, 0), api.Event{Kind: api.EvPush, S: 1, Id: 1})
	do(t, c, deliver(-1, 1, 0), api.Event{Kind: api.EvPush, S: 1, Id: 2, Code: 1})
}

func encoded(t *testing.T, f api.Frame) string {
	t.Helper()
	s, err := frame.Encode(f)
	if err != api.OK {
		t.Fatalf("Encode(%v): %v", f, err)
	}
	return s
}

func TestRaw(t *testing.T) {
	c := made(t, usual(t, 2))
	asks := func(from, to, level int) api.Frame {
		return api.Frame{Kind: 1, Request: api.Request{Id: 77, From: from, To: to, Level: level, Deadline: 9, Budget: 9}}
	}
	answers := func(from, to int) api.Frame {
		return api.Frame{Kind: 2, Reply: api.Reply{Id: 77, From: from, To: to, Code: 1, Threshold: 128, Epoch: 7}}
	}
	pushes := func(to int) api.Frame { return api.Frame{Kind: 3, Push: api.Push{To: to, Version: 4}} }
	raw := func(from, to int, bytes string) api.Act {
		return api.Act{Kind: api.ActRaw, From: from, S: to, Bytes: bytes}
	}
	good := encoded(t, asks(-1, 0, 7))
	for _, x := range []struct {
		a    api.Act
		want api.Errno
	}{
		{raw(0, 0, good), api.ErrNone}, {raw(-1, 2, good), api.ErrNone}, {raw(2, 0, ""), api.ErrNone}, {raw(-1, 0, ""), api.ErrShort}, {raw(-1, 0, "x"), api.ErrForm},
		{raw(-1, 0, "\xb7\x01\x09"), api.ErrKind}, {raw(-1, 0, "\xb7\x01\x01\xff"), api.ErrMany}, {raw(-1, 0, good[:len(good)-1]+"\x00"), api.ErrSum}, {raw(-1, 0, good+"x"), api.ErrForm},
		{raw(-1, 1, good), api.ErrArg}, {raw(1, 0, good), api.ErrArg}, {raw(-1, 0, encoded(t, asks(-1, 0, 8))), api.ErrArg}, {raw(0, 1, encoded(t, pushes(1))), api.ErrArg},
		{raw(0, -1, encoded(t, answers(1, -1))), api.ErrArg}, {raw(-1, 0, encoded(t, answers(1, 0))), api.ErrArg}, {raw(0, 1, encoded(t, asks(2, 1, 0))), api.ErrArg},
	} {
		refused(t, c, x.a, x.want)
		if len(c.Links()) != 0 {
			t.Fatalf("%v left something", x.a)
		}
	}
	do(t, c, raw(-1, 0, good))
	do(t, c, raw(1, 0, encoded(t, answers(1, 0))))
	do(t, c, raw(1, -1, encoded(t, answers(1, -1))))
	do(t, c, raw(-1, 1, encoded(t, pushes(1))))
	do(t, c, raw(0, 1, encoded(t, asks(0, 1, 0))))
	do(t, c, deliver(-1, 0, 0), api.Event{Kind: api.EvCame, Id: 77, A: 7, B: 8}, api.Event{Kind: api.EvStart, Id: 77, B: 9})
	do(t, c, deliver(1, 0, 0), api.Event{Kind: api.EvLearn, Id: 7, A: 1, B: 128}, api.Event{Kind: api.EvHeard, Id: 77, Code: 1, A: 1})
	do(t, c, deliver(1, -1, 0), api.Event{Kind: api.EvAnswer, S: 1, Id: 77, Code: 1})
	do(t, c, deliver(-1, 1, 0), api.Event{Kind: api.EvPush, S: 1, Id: 4})
	do(t, c, deliver(0, 1, 0), api.Event{Kind: api.EvCame, S: 1, Id: 77, B: 8}, api.Event{Kind: api.EvStart, S: 1, Id: 77, B: 9})
}

func TestAt(t *testing.T) {
	c := made(t, usual(t, 2))
	c.Do(askFirst)
	for _, x := range [][3]int{{-1, 0, 1}, {-1, 0, -1}, {0, -1, 0}, {-1, 2, 0}, {0, 0, 0}} {
		if f, err := c.At(x[0], x[1], x[2]); f != (api.Frame{}) || err != api.ErrNone {
			t.Errorf("At(%v) = %v, %v", x, f, err)
		}
	}
}

func TestNilAndZero(t *testing.T) {
	for _, c := range []*cluster.Cluster{nil, {}} {
		refused(t, c, api.Act{Kind: api.ActTick}, api.ErrNone)
		refused(t, c, api.Act{}, api.ErrNone)
		if f, err := c.At(-1, 0, 0); f != (api.Frame{}) || err != api.ErrNone {
			t.Errorf("At: %v, %v", f, err)
		}
		if c.Now() != 0 || c.Services() != 0 || c.Levels() != 0 || c.Threshold(0) != 0 || c.Tier(0) != 0 || c.Epoch(0) != 0 || c.Calm(0) != 0 ||
			len(c.Queue(0)) != 0 || len(c.Jobs(0)) != 0 || len(c.Known(0)) != 0 || len(c.Links()) != 0 {
			t.Error("is something")
		}
	}
}

// state is all that can be seen of a site.
func state(c *cluster.Cluster) []any {
	out := []any{c.Now()}
	for s := range c.Services() {
		out = append(out, c.Threshold(s), c.Tier(s), c.Epoch(s), c.Calm(s))
		for _, x := range c.Queue(s) {
			out = append(out, x)
		}
		for _, j := range c.Jobs(s) {
			out = append(out, j.Item, j.Phase, len(j.Needs))
			for _, n := range j.Needs {
				out = append(out, n)
			}
		}
		for _, k := range c.Known(s) {
			out = append(out, k)
		}
	}
	for _, link := range c.Links() {
		for place := 0; ; place++ {
			f, err := c.At(link[0], link[1], place)
			if err != api.OK {
				break
			}
			out = append(out, link, f)
		}
	}
	return out
}

func TestWhateverIsDone(t *testing.T) {
	seed := uint32(61)
	next := func(k int) int {
		seed = seed*1664525 + 1013904223
		return int(seed>>16) % k
	}
	for round := 0; round < 20; round++ {
		s := usual(t, 1+next(4))
		for i := range s.Services {
			s.Services[i].Window, s.Services[i].Workers = 1+next(4), 1+next(2)
		}
		c, twin := made(t, s), made(t, s)
		for step := 0; step < 500; step++ {
			n := len(s.Services)
			from, to := next(n+2)-1, next(n+2)-1
			if links := c.Links(); len(links) > 0 && next(3) > 0 {
				from, to = links[next(len(links))][0], links[0][1]
			}
			id := 1 + next(30)
			if jobs := c.Jobs(next(n)); len(jobs) > 0 {
				id = jobs[0].Item.Id
			}
			bytes := ""
			if f, err := c.At(from, to, 0); err == api.OK {
				bytes = encoded(t, f)
			}
			a := []api.Act{
				{Kind: api.ActAsk, S: next(n + 1), Business: next(3), User: next(9), Ttl: next(30), Budget: next(9)}, {Kind: api.ActAsk, Business: next(2), User: next(9), Ttl: 20, Budget: 9},
				{Kind: api.ActTick}, {Kind: api.ActDeliver, From: from, S: to, N: next(2)}, {Kind: api.ActDeliver, From: from, S: to}, {Kind: api.ActDrop, From: from, S: to, N: next(3)},
				{Kind: api.ActTwin, From: from, S: to, N: next(2)}, {Kind: api.ActDone, S: next(n), Id: id}, {Kind: api.ActDone, S: next(n), Id: id}, {Kind: api.ActFail, S: next(n + 1), Id: id},
				{Kind: api.ActPush, S: next(n + 1), Version: next(5), Knobs: knob.Usual(8)}, {Kind: api.ActRaw, From: from, S: to, Bytes: bytes}, {Kind: api.ActRestart, S: next(n + 8)},
			}[next(13)]
			before := state(c)
			events, err := c.Do(a)
			again, errAgain := twin.Do(a)
			if !slices.Equal(events, again) || err != errAgain || !slices.Equal(state(c), state(twin)) {
				t.Fatalf("the same acts lead to %v, %v and %v, %v", events, err, again, errAgain)
			}
			if err != api.OK && (len(events) > 0 || !slices.Equal(before, state(c))) {
				t.Fatalf("%v was refused, but changed something", a)
			}
			for _, v := range events {
				if v.Tick != c.Now() {
					t.Fatalf("%v at %d", v, c.Now())
				}
			}
		}
	}
}

func TestServicesActAsInTheirChapter(t *testing.T) {
	s := usual(t, 1)
	c := made(t, s)
	n, err := node.New(s, 0)
	if err != api.OK {
		t.Fatal(err)
	}
	for range 25 {
		c.Do(askFirst)
		f, _ := c.At(-1, 0, 0)
		out, _ := n.Request(f.Request)
		do(t, c, deliver(-1, 0, 0), out.Events...)
		out, _ = n.Tick()
		do(t, c, api.Act{Kind: api.ActTick}, out.Events...)
	}
	if !slices.Equal(c.Queue(0), n.Queue()) || c.Threshold(0) != n.Threshold() || c.Tier(0) != n.Tier() || c.Calm(0) != n.Calm() || c.Now() != n.Now() {
		t.Error("the service is another one")
	}
}
