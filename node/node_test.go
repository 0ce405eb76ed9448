package node_test

import (
	"slices"
	"testing"

	"lockkeeper/api"
	"lockkeeper/calm"
	"lockkeeper/job"
	"lockkeeper/knob"
	"lockkeeper/node"
)

// three is a site of which service 0 calls 1, which is required, and 2, which is of tier 1.
func three(change func(x *api.Service)) api.Site {
	x := api.Service{Workers: 1, Queue: 2, Window: 10, Tiers: 1, Seen: 8, Ttl: 20, Knobs: knob.Usual(8)}
	first := x
	first.Calls = []api.Call{{To: 1, Weight: 4, Most: 20}, {To: 2, Tier: 1, Weight: 8, Most: 3}}
	change(&first)
	return api.Site{Business: 2, Classes: 4, Rotate: 100, Key: 1, Services: []api.Service{first, x, x}}
}

func made(t *testing.T, s api.Site, self int) *node.Node {
	t.Helper()
	n, err := node.New(s, self)
	if n == nil || err != api.OK {
		t.Fatalf("New: %v", err)
	}
	return n
}

// plain is service 0 without calls, changed.
func plain(t *testing.T, change func(x *api.Service)) *node.Node {
	t.Helper()
	return made(t, three(func(x *api.Service) {
		x.Calls = nil
		change(x)
	}), 0)
}

func same(x *api.Service) {}

func ask(id, level int) api.Request {
	return api.Request{Id: id, From: -1, To: 0, Level: level, Deadline: 1000, Budget: 500}
}

// want holds an output against events and frames, whose tick and service are filled in.
func want(t *testing.T, n *node.Node, out api.Out, err api.Errno, events []api.Event, frames ...api.Frame) {
	t.Helper()
	for i := range events {
		events[i].Tick = n.Now()
	}
	if err != api.OK || !slices.Equal(out.Events, events) || !slices.Equal(out.Frames, frames) {
		t.Errorf("%v\nevents %v\n  want %v\nframes %v\n  want %v", err, out.Events, events, out.Frames, frames)
	}
}

func refused(t *testing.T, out api.Out, err, wanted api.Errno) {
	t.Helper()
	if err != wanted || len(out.Events) != 0 || len(out.Frames) != 0 {
		t.Errorf("%v, %v; want %v", out, err, wanted)
	}
}

// answer is the reply to the client, as long as nothing of the controller has changed.
func answer(id, code int) api.Frame {
	return api.Frame{Kind: api.KindReply, Reply: api.Reply{Id: id, From: 0, To: -1, Code: code, Threshold: 8, Epoch: 1, Tier: 1}}
}

func tick(t *testing.T, n *node.Node, times int) {
	t.Helper()
	for range times {
		if _, err := n.Tick(); err != api.OK {
			t.Fatal(err)
		}
	}
}

func TestNew(t *testing.T) {
	s := three(same)
	for self := range 3 {
		n := made(t, s, self)
		if n.Now() != 0 || n.Version() != 0 || n.Threshold() != 8 || n.Tier() != 1 || n.Epoch() != 1 || n.Calm() != 0 ||
			len(n.Queue()) != 0 || len(n.Jobs()) != 0 || len(n.Known()) != 0 || len(n.Seen()) != 0 {
			t.Errorf("service %d is not at the beginning", self)
		}
	}
	loop := three(same)
	loop.Services[2].Calls = []api.Call{{To: 0, Weight: 1, Most: 1}}
	for _, c := range []struct {
		s    api.Site
		self int
		want api.Errno
	}{
		{s, -1, api.ErrNone}, {s, 3, api.ErrNone}, {s, api.MaxInt, api.ErrNone}, {api.Site{}, 0, api.ErrConf}, {api.Site{}, -1, api.ErrConf}, {loop, 0, api.ErrLoop}, {loop, 9, api.ErrLoop},
	} {
		if n, err := node.New(c.s, c.self); n != nil || err != c.want {
			t.Errorf("New(.., %d): %v", c.self, err)
		}
	}
}

func TestTheSiteIsNotKept(t *testing.T) {
	s := three(same)
	n := made(t, s, 0)
	s.Services[0].Calls[0].To = 2
	n.Request(ask(1, 0))
	out, _ := n.Done(1)
	if out.Frames[0].Request.To != 1 {
		t.Errorf("asked %d", out.Frames[0].Request.To)
	}
}

func TestExample(t *testing.T) {
	n := plain(t, func(x *api.Service) { x.Queue = 1 })
	out, err := n.Request(ask(1, 2))
	want(t, n, out, err, []api.Event{{Kind: api.EvCame, Id: 1, A: 2, B: 8}, {Kind: api.EvStart, Id: 1, B: 1000}})
	out, err = n.Request(ask(2, 3))
	want(t, n, out, err, []api.Event{{Kind: api.EvCame, Id: 2, A: 3, B: 8}})
	out, err = n.Request(ask(3, 1))
	want(t, n, out, err, []api.Event{{Kind: api.EvCame, Id: 3, A: 1, B: 8}, {Kind: api.EvEnd, Id: 2, Code: api.Evicted, A: 3}}, answer(2, api.Evicted))
	out, err = n.Request(ask(4, 5))
	want(t, n, out, err, []api.Event{{Kind: api.EvCame, Id: 4, A: 5, B: 8}, {Kind: api.EvEnd, Id: 4, Code: api.Evicted, A: 5}}, answer(4, api.Evicted))
	if !slices.Equal(n.Queue(), []api.Item{{Id: 3, Level: 1, From: -1, Deadline: 1000, Budget: 500, Seq: 3}}) {
		t.Errorf("queue: %v", n.Queue())
	}
	out, err = n.Done(1)
	want(t, n, out, err, []api.Event{{Kind: api.EvEnd, Id: 1, Code: api.Good, A: 2}, {Kind: api.EvStart, Id: 3, B: 1000}}, answer(1, api.Good))
}

func TestRequestsThatAreWrong(t *testing.T) {
	n := plain(t, same)
	for i, change := range []func(r *api.Request){
		func(r *api.Request) { r.Id = -1 }, func(r *api.Request) { r.Id = api.MaxId + 1 }, func(r *api.Request) { r.To = 1 }, func(r *api.Request) { r.From = 0 },
		func(r *api.Request) { r.From = 3 }, func(r *api.Request) { r.From = 7 }, func(r *api.Request) { r.From = -2 }, func(r *api.Request) { r.Level = 8 },
		func(r *api.Request) { r.Level = -1 }, func(r *api.Request) { r.Deadline = -1 }, func(r *api.Request) { r.Budget = 65536 },
	} {
		r := ask(5, 3)
		change(&r)
		out, err := n.Request(r)
		refused(t, out, err, api.ErrArg)
		if len(n.Seen()) != 0 || len(n.Jobs()) != 0 {
			t.Errorf("change %d left something", i)
		}
	}
	r := ask(5, 7)
	r.From = 2
	if _, err := n.Request(r); err != api.OK {
		t.Errorf("of another service: %v", err)
	}
}

func TestRequestsThatEndAtOnce(t *testing.T) {
	n := plain(t, func(x *api.Service) { x.Window, x.Knobs.Floor = 1, 1 })
	tick(t, n, 3)
	r := ask(1, 2)
	r.Deadline = 3
	out, err := n.Request(r)
	want(t, n, out, err, []api.Event{{Kind: api.EvCame, Id: 1, Code: api.Expired, A: 2, B: 8}, {Kind: api.EvEnd, Id: 1, Code: api.Expired, A: 2}}, answer(1, api.Expired))
	// One is worked on at once, one waits for so long that the window is Over.
	n.Request(ask(2, 7))
	n.Request(ask(3, 6))
	tick(t, n, 10)
	n.Done(2)
	out, err = n.Tick()
	want(t, n, out, err, []api.Event{{Kind: api.EvClose, Id: 2, Code: api.Over, A: 7, B: 0}})
	told := api.Frame{Kind: api.KindReply, Reply: api.Reply{Id: 4, From: 0, To: 1, Code: api.Refused, Threshold: 7, Epoch: 2}}
	r = ask(4, 7)
	r.From = 1
	out, err = n.Request(r)
	want(t, n, out, err, []api.Event{{Kind: api.EvCame, Id: 4, Code: api.Refused, A: 7, B: 7}, {Kind: api.EvEnd, Id: 4, Code: api.Refused, A: 7}}, told)
	// The deadline is looked at ahead of the level.
	r = ask(5, 7)
	r.Deadline = n.Now()
	out, _ = n.Request(r)
	if out.Events[0].Code != api.Expired {
		t.Errorf("both: %v", out.Events)
	}
	out, _ = n.Request(ask(6, 6))
	if out.Events[0].Code != 0 || out.Events[0].B != 7 {
		t.Errorf("a level that passes: %v", out.Events)
	}
}

func TestDuplicates(t *testing.T) {
	n := plain(t, func(x *api.Service) { x.Seen = 2 })
	twice := func(id int, absorbed bool) {
		t.Helper()
		out, err := n.Request(ask(id, 0))
		if absorbed {
			want(t, n, out, err, []api.Event{{Kind: api.EvTwice, Id: id}})
		} else if out.Events[0].Kind != api.EvCame {
			t.Errorf("%d: %v", id, out.Events)
		}
	}
	twice(1, false)
	twice(1, true)
	twice(2, false)
	twice(3, false)
	// 1 has left the window, but it is worked on; 2 waits.
	if !slices.Equal(n.Seen(), []int{2, 3}) {
		t.Errorf("seen: %v", n.Seen())
	}
	twice(1, true)
	twice(4, false)
	twice(5, false)
	twice(2, true)
	n.Done(1)
	twice(1, false)
	twice(5, true)
}

func TestWindowOfNoIds(t *testing.T) {
	n := plain(t, func(x *api.Service) { x.Seen = 0 })
	n.Request(ask(1, 0))
	if out, _ := n.Request(ask(1, 0)); out.Events[0].Kind != api.EvTwice {
		t.Errorf("is worked on: %v", out.Events)
	}
	n.Done(1)
	if out, _ := n.Request(ask(1, 0)); out.Events[0].Kind != api.EvCame {
		t.Errorf("is over: %v", out.Events)
	}
}

func TestItemsGoByDeadlineAndWaitByTicks(t *testing.T) {
	n := plain(t, func(x *api.Service) { x.Queue = 4 })
	for id, deadline := range []int{50, 90, 70, 70} {
		r := ask(id, 7-id)
		r.Deadline = deadline
		n.Request(r)
		n.Tick()
	}
	for i, id := range []int{0, 2, 3, 1} {
		out, err := n.Done(id)
		events := []api.Event{{Kind: api.EvEnd, Id: id, Code: api.Good, A: 7 - id}}
		if i < 3 {
			next := []int{2, 3, 1}[i]
			events = append(events, api.Event{Kind: api.EvStart, Id: next, A: 4 - next, B: []int{50, 90, 70, 70}[next]})
		}
		want(t, n, out, err, events, answer(id, api.Good))
	}
}

func TestDoneAndBrokenOfWhatIsNotWorkedOn(t *testing.T) {
	n := made(t, three(same), 0)
	n.Request(ask(1, 2))
	n.Request(ask(2, 2))
	for _, id := range []int{0, 2, 3, -1, api.MaxInt} {
		out, err := n.Done(id)
		refused(t, out, err, api.ErrNone)
		out, err = n.Broken(id)
		refused(t, out, err, api.ErrNone)
	}
	n.Done(1)
	out, err := n.Done(1)
	refused(t, out, err, api.ErrState)
	out, err = n.Broken(1)
	refused(t, out, err, api.ErrState)
	if jobs := n.Jobs(); len(jobs) != 1 || jobs[0].Phase != api.Waiting {
		t.Errorf("jobs: %v", jobs)
	}
}

func TestBroken(t *testing.T) {
	n := made(t, three(same), 0)
	n.Request(ask(1, 2))
	n.Request(ask(2, 3))
	out, err := n.Broken(1)
	want(t, n, out, err, []api.Event{{Kind: api.EvEnd, Id: 1, Code: api.Broken, A: 2}, {Kind: api.EvStart, Id: 2, B: 1000}}, answer(1, api.Broken))
}

const number = api.MaxNumber + 1 // of the first call of service 0

func asked(id, to, level, deadline, budget int) api.Frame {
	return api.Frame{Kind: api.KindRequest, Request: api.Request{Id: id, From: 0, To: to, Level: level, Deadline: deadline, Budget: budget}}
}

func TestDoneAsksOthers(t *testing.T) {
	n := made(t, three(same), 0)
	tick(t, n, 5)
	r := ask(7, 3)
	r.Deadline = 25
	n.Request(r)
	out, err := n.Done(7)
	want(t, n, out, err, []api.Event{{Kind: api.EvCall, Id: 7, A: 1, B: number}, {Kind: api.EvCall, Id: 7, A: 2, B: number + 1}},
		asked(number, 1, 3, 15, 5), asked(number+1, 2, 3, 25, 3))
	item := api.Item{Id: 7, Level: 3, From: -1, Deadline: 25, Budget: 500, Since: 5, Seq: 1}
	if jobs := n.Jobs(); len(jobs) != 1 || !job.Same(jobs[0], api.Job{Item: item, Phase: api.Waiting, Needs: []int{number}}) {
		t.Errorf("jobs: %v", jobs)
	}
	// The answer of the optional call is heard, but nothing waits for it.
	out, err = n.Reply(api.Reply{Id: number + 1, From: 2, To: 0, Code: api.Good, Threshold: 8, Epoch: 1})
	want(t, n, out, err, []api.Event{{Kind: api.EvLearn, Id: 1, A: 2, B: 8}, {Kind: api.EvHeard, Id: number + 1, Code: api.Good, A: 2}})
	out, err = n.Reply(api.Reply{Id: number, From: 1, To: 0, Code: api.Good, Threshold: 8, Epoch: 1})
	want(t, n, out, err, []api.Event{{Kind: api.EvLearn, Id: 1, A: 1, B: 8}, {Kind: api.EvHeard, Id: number, Code: api.Good, A: 1, B: 1}, {Kind: api.EvEnd, Id: 7, Code: api.Good, A: 3}}, answer(7, api.Good))
	// The same answer once more: heard, but nothing waits any more.
	out, err = n.Reply(api.Reply{Id: number, From: 1, To: 0, Code: api.Good, Threshold: 8, Epoch: 1})
	want(t, n, out, err, []api.Event{{Kind: api.EvLearn, Id: 1, A: 1, B: 8}, {Kind: api.EvHeard, Id: number, Code: api.Good, A: 1}})
	// Calls are numbered on.
	n.Request(ask(8, 0))
	out, _ = n.Done(8)
	if out.Events[0].B != number+2 {
		t.Errorf("the third call: %v", out.Events)
	}
}

func TestNumbersOfCallsOfOtherServices(t *testing.T) {
	s := three(same)
	s.Services[2].Calls = []api.Call{{To: 1, Weight: 8, Most: 9}}
	n := made(t, s, 2)
	r := ask(1, 0)
	r.To = 2
	n.Request(r)
	out, err := n.Done(1)
	if want := (api.Event{Kind: api.EvCall, S: 2, Id: 1, A: 1, B: 3*api.MaxNumber + 1}); err != api.OK || len(out.Events) != 1 || out.Events[0] != want {
		t.Errorf("events %v, %v", out.Events, err)
	}
	if want := (api.Request{Id: 3*api.MaxNumber + 1, From: 2, To: 1, Deadline: 1000, Budget: 9}); len(out.Frames) != 1 || out.Frames[0] != (api.Frame{Kind: 1, Request: want}) {
		t.Errorf("frames %v", out.Frames)
	}
	out, err = n.Reply(api.Reply{Id: 3*api.MaxNumber + 1, From: 1, To: 2, Code: api.Good, Threshold: 8, Epoch: 1})
	if want := (api.Reply{Id: 1, From: 2, To: -1, Code: api.Good, Threshold: 8, Epoch: 1, Tier: 1}); err != api.OK || len(out.Frames) != 1 || out.Frames[0] != (api.Frame{Kind: 2, Reply: want}) {
		t.Errorf("frames %v, %v", out.Frames, err)
	}
}

func TestAFailedCallFailsTheJob(t *testing.T) {
	n := made(t, three(func(x *api.Service) { x.Calls[1].Tier = 0 }), 0)
	n.Request(ask(1, 2))
	n.Request(ask(2, 3))
	n.Done(1)
	if needs := n.Jobs()[0].Needs; !slices.Equal(needs, []int{number, number + 1}) {
		t.Errorf("needs: %v", needs)
	}
	n.Jobs()[0].Needs[0] = 77
	if needs := n.Jobs()[0].Needs; !slices.Equal(needs, []int{number, number + 1}) {
		t.Errorf("needs are shared: %v", needs)
	}
	out, err := n.Reply(api.Reply{Id: number + 1, From: 2, To: 0, Code: api.Late, Threshold: 8, Epoch: 1})
	want(t, n, out, err, []api.Event{{Kind: api.EvLearn, Id: 1, A: 2, B: 8}, {Kind: api.EvHeard, Id: number + 1, Code: api.Late, A: 2, B: 1},
		{Kind: api.EvEnd, Id: 1, Code: api.Failed, A: 2}, {Kind: api.EvStart, Id: 2, B: 1000}}, answer(1, api.Failed))
	out, err = n.Reply(api.Reply{Id: number, From: 1, To: 0, Code: api.Good, Threshold: 8, Epoch: 1})
	want(t, n, out, err, []api.Event{{Kind: api.EvLearn, Id: 1, A: 1, B: 8}, {Kind: api.EvHeard, Id: number, Code: api.Good, A: 1}})
	// Both are required, so one answer does not end the job.
	n.Done(2)
	out, err = n.Reply(api.Reply{Id: number + 2, From: 1, To: 0, Code: api.Good, Threshold: 8, Epoch: 1})
	want(t, n, out, err, []api.Event{{Kind: api.EvLearn, Id: 1, A: 1, B: 8}, {Kind: api.EvHeard, Id: number + 2, Code: api.Good, A: 1, B: 1}})
	if needs := n.Jobs()[0].Needs; !slices.Equal(needs, []int{number + 3}) {
		t.Errorf("needs: %v", needs)
	}
}

func TestCallsThatAreNotMade(t *testing.T) {
	cut := func(n *node.Node, from int) {
		n.Reply(api.Reply{Id: 5, From: from, To: 0, Code: api.Good, Threshold: 3, Epoch: 4})
	}
	// Cut and optional: it is skipped.
	n := made(t, three(func(x *api.Service) { x.Calls = x.Calls[1:] }), 0)
	cut(n, 2)
	n.Request(ask(1, 3))
	out, err := n.Done(1)
	want(t, n, out, err, []api.Event{{Kind: api.EvSkip, Id: 1, Code: api.Cut, A: 2}, {Kind: api.EvEnd, Id: 1, Code: api.Good, A: 3}}, answer(1, api.Good))
	// What was told counts for Ttl ticks.
	tick(t, n, 20)
	n.Request(ask(2, 3))
	if out, _ := n.Done(2); out.Events[0].Kind != api.EvSkip {
		t.Errorf("at the end of its time: %v", out.Events)
	}
	tick(t, n, 1)
	n.Request(ask(3, 3))
	if out, _ := n.Done(3); out.Events[0].Kind != api.EvCall || out.Events[0].B != number {
		t.Errorf("behind its time: %v", out.Events)
	}
	// Cut and required: it is the outcome, and nothing is asked.
	n = made(t, three(same), 0)
	cut(n, 1)
	n.Request(ask(1, 3))
	n.Request(ask(2, 2))
	out, err = n.Done(1)
	want(t, n, out, err, []api.Event{{Kind: api.EvEnd, Id: 1, Code: api.Cut, A: 3}, {Kind: api.EvStart, Id: 2, B: 1000}}, answer(1, api.Cut))
	if out, _ := n.Done(2); out.Events[0].Kind != api.EvCall {
		t.Errorf("a level that passes: %v", out.Events)
	}
	// Starved.
	n = made(t, three(same), 0)
	r := ask(1, 0)
	r.Deadline = 3
	n.Request(r)
	out, err = n.Done(1)
	want(t, n, out, err, []api.Event{{Kind: api.EvEnd, Id: 1, Code: api.Starved}}, answer(1, api.Starved))
	// Dimmed: a window that is Over switches the tier off.
	n = made(t, three(func(x *api.Service) { x.Calls, x.Window = x.Calls[1:], 1 }), 0)
	n.Request(ask(1, 0))
	n.Request(ask(2, 0))
	tick(t, n, 9)
	n.Done(1)
	n.Reply(api.Reply{Id: number, From: 2, To: 0, Code: api.Good, Threshold: 8, Epoch: 1})
	tick(t, n, 1)
	if n.Tier() != 0 {
		t.Fatalf("tier %d", n.Tier())
	}
	out, _ = n.Done(2)
	if out.Events[0] != (api.Event{Kind: api.EvSkip, Tick: 10, Id: 2, Code: api.Dimmed, A: 2}) || out.Frames[0].Reply.Tier != 0 {
		t.Errorf("dimmed: %v", out)
	}
}

func TestRepliesThatAreWrong(t *testing.T) {
	n := made(t, three(same), 0)
	good := api.Reply{Id: 5, From: 2, To: 0, Code: api.Good, Threshold: 3, Epoch: 4}
	for _, change := range []func(r *api.Reply){
		func(r *api.Reply) { r.To = 1 }, func(r *api.Reply) { r.To = -1 }, func(r *api.Reply) { r.From = 3 }, func(r *api.Reply) { r.From = 0 }, func(r *api.Reply) { r.From = -1 },
		func(r *api.Reply) { r.Code = 0 }, func(r *api.Reply) { r.Code = 11 }, func(r *api.Reply) { r.Threshold = 129 }, func(r *api.Reply) { r.Id = -1 },
	} {
		r := good
		change(&r)
		out, err := n.Reply(r)
		refused(t, out, err, api.ErrArg)
		if len(n.Known()) != 0 {
			t.Errorf("%v is known", r)
		}
	}
}

func TestAnnouncements(t *testing.T) {
	n := made(t, three(same), 0)
	tick(t, n, 3)
	say := func(threshold, epoch int, learns bool) {
		t.Helper()
		events := []api.Event{{Kind: api.EvLearn, Id: epoch, A: 2, B: threshold}, {Kind: api.EvHeard, Id: 5, Code: api.Refused, A: 2}}
		if !learns {
			events = events[1:]
		}
		out, err := n.Reply(api.Reply{Id: 5, From: 2, To: 0, Code: api.Refused, Threshold: threshold, Epoch: epoch})
		want(t, n, out, err, events)
	}
	say(5, 4, true)
	say(7, 3, false)
	tick(t, n, 1)
	say(6, 4, true)
	if known := n.Known(); !slices.Equal(known, []api.Known{{To: 2, Threshold: 5, Epoch: 4, At: 4}}) {
		t.Errorf("known: %v", known)
	}
	tick(t, n, 20)
	if len(n.Known()) != 1 {
		t.Errorf("known: %v", n.Known())
	}
	tick(t, n, 1)
	if len(n.Known()) != 0 {
		t.Errorf("known: %v", n.Known())
	}
}

func TestPush(t *testing.T) {
	n := plain(t, same)
	other := knob.Usual(8)
	other.Low, other.High = 0, 0
	say := func(version int, k api.Knobs, code int) {
		t.Helper()
		out, err := n.Push(api.Push{To: 0, Version: version, Knobs: k})
		want(t, n, out, err, []api.Event{{Kind: api.EvPush, Id: version, Code: code}})
	}
	say(0, other, 0)
	say(3, api.Knobs{}, 0)
	if n.Version() != 0 {
		t.Errorf("version %d", n.Version())
	}
	say(3, other, 1)
	if n.Version() != 3 {
		t.Errorf("version %d", n.Version())
	}
	say(3, other, 0)
	say(2, other, 0)
	say(api.MaxEpoch, knob.Usual(8), 1)
	say(api.MaxEpoch, other, 0)
	for _, p := range []api.Push{{To: 1, Version: 5, Knobs: other}, {To: 0, Version: -1, Knobs: other}, {To: 0, Version: 5, Knobs: api.Knobs{Low: -1}}, {To: 8}} {
		out, err := n.Push(p)
		refused(t, out, err, api.ErrArg)
	}
	// The settings are those by which windows are judged.
	n = plain(t, func(x *api.Service) { x.Window = 1 })
	n.Push(api.Push{Version: 1, Knobs: other})
	if out, _ := n.Tick(); out.Events[0].Code != api.Mid {
		t.Errorf("by the new settings: %v", out.Events)
	}
}

func TestTickEndsWhatIsOver(t *testing.T) {
	n := plain(t, func(x *api.Service) { x.Workers, x.Queue = 2, 4 })
	for id, limits := range [][2]int{{3, 9}, {4, 9}, {9, 1}, {2, 9}, {9, 9}, {3, 1}} {
		r := ask(id, id)
		r.Deadline, r.Budget = limits[0], limits[1]
		n.Request(r)
	}
	out, err := n.Tick()
	want(t, n, out, err, nil)
	out, err = n.Tick()
	want(t, n, out, err, []api.Event{
		{Kind: api.EvEnd, Id: 3, Code: api.Expired, A: 3}, {Kind: api.EvEnd, Id: 5, Code: api.Spent, A: 5}, {Kind: api.EvEnd, Id: 2, Code: api.Spent, A: 2},
	}, answer(3, api.Expired), answer(5, api.Spent), answer(2, api.Spent))
	out, err = n.Tick()
	want(t, n, out, err, []api.Event{{Kind: api.EvEnd, Id: 0, Code: api.Late}, {Kind: api.EvStart, Id: 4, A: 3, B: 9}}, answer(0, api.Late))
	out, err = n.Tick()
	want(t, n, out, err, []api.Event{{Kind: api.EvEnd, Id: 1, Code: api.Late, A: 1}}, answer(1, api.Late))
	if jobs := n.Jobs(); len(jobs) != 1 || jobs[0].Item.Id != 4 {
		t.Errorf("jobs: %v", jobs)
	}
}

func TestLateWhileOthersAreAsked(t *testing.T) {
	n := made(t, three(same), 0)
	r := ask(1, 2)
	r.Deadline = 9
	n.Request(r)
	n.Request(ask(2, 3))
	n.Done(1)
	tick(t, n, 8)
	out, err := n.Tick()
	want(t, n, out, err, []api.Event{{Kind: api.EvEnd, Id: 1, Code: api.Late, A: 2}, {Kind: api.EvStart, Id: 2, A: 9, B: 1000}}, answer(1, api.Late))
	out, err = n.Reply(api.Reply{Id: number, From: 1, To: 0, Code: api.Good, Threshold: 8, Epoch: 1})
	want(t, n, out, err, []api.Event{{Kind: api.EvLearn, Id: 1, A: 1, B: 8}, {Kind: api.EvHeard, Id: number, Code: api.Good, A: 1}})
}

func TestWindowsEndByTicks(t *testing.T) {
	n := plain(t, func(x *api.Service) { x.Window = 3 })
	for i := 1; i <= 9; i++ {
		out, err := n.Tick()
		var events []api.Event
		if i%3 == 0 {
			events = []api.Event{{Kind: api.EvClose, Id: 1, Code: api.Calm, A: 8, B: 1}}
		}
		want(t, n, out, err, events)
	}
	// What ends at the end of a window is answered as it was before, and what starts then counts for the next one.
	n = plain(t, func(x *api.Service) { x.Window, x.Queue = 10, 4 })
	for id := range 3 {
		r := ask(id, id)
		r.Deadline = 10
		n.Request(r)
	}
	n.Request(ask(3, 3))
	tick(t, n, 4)
	n.Done(0)
	n.Done(1)
	tick(t, n, 5)
	out, err := n.Tick()
	want(t, n, out, err, []api.Event{
		{Kind: api.EvEnd, Id: 2, Code: api.Late, A: 2}, {Kind: api.EvClose, Id: 1, Code: api.Mid, A: 8, B: 1}, {Kind: api.EvStart, Id: 3, A: 10, B: 1000},
	}, answer(2, api.Late))
	tick(t, n, 9)
	if out, _ := n.Tick(); out.Events[0].Code != api.Over {
		t.Errorf("the next window: %v", out.Events)
	}
}

func TestTheThresholdGoesByWhatCame(t *testing.T) {
	n := plain(t, func(x *api.Service) { x.Queue, x.Window, x.Knobs.Cut = 16, 12, 50 })
	for id := range 8 {
		n.Request(ask(id, id))
	}
	// What comes twice counts once.
	for range 9 {
		n.Request(ask(0, 0))
	}
	tick(t, n, 11)
	n.Done(0)
	out, err := n.Tick()
	want(t, n, out, err, []api.Event{{Kind: api.EvClose, Id: 2, Code: api.Over, A: 4, B: 0}})
	if n.Threshold() != 4 || n.Tier() != 0 || n.Epoch() != 2 || n.Calm() != 2+4+2 {
		t.Errorf("threshold %d, tier %d, epoch %d, calm %d", n.Threshold(), n.Tier(), n.Epoch(), n.Calm())
	}
}

func TestRestart(t *testing.T) {
	n := made(t, three(func(x *api.Service) { x.Workers, x.Queue, x.Window = 2, 3, 1 }), 0)
	for id, deadline := range []int{90, 80, 70, 60, 50} {
		r := ask(id, id)
		r.Deadline = deadline
		n.Request(r)
	}
	n.Done(0)
	n.Push(api.Push{Version: 5, Knobs: knob.Usual(8)})
	n.Reply(api.Reply{Id: 9, From: 2, To: 0, Code: api.Good, Threshold: 3, Epoch: 4})
	tick(t, n, 2)
	out, err := n.Restart()
	want(t, n, out, err, []api.Event{
		{Kind: api.EvErase, Id: 4, A: 4}, {Kind: api.EvErase, Id: 3, A: 3}, {Kind: api.EvErase, Id: 2, A: 2}, {Kind: api.EvErase, Id: 0}, {Kind: api.EvErase, Id: 1, A: 1},
		{Kind: api.EvRestart, Id: 2, A: 8},
	})
	if n.Now() != 2 || n.Version() != 5 || n.Epoch() != 2 || n.Threshold() != 8 || len(n.Queue()) != 0 || len(n.Jobs()) != 0 || len(n.Known()) != 0 || len(n.Seen()) != 0 {
		t.Error("not as behind a restart")
	}
	// The call of the erased job is not waited for any more, and the same Id may come again.
	out, err = n.Reply(api.Reply{Id: number, From: 1, To: 0, Code: api.Good, Threshold: 8, Epoch: 1})
	want(t, n, out, err, []api.Event{{Kind: api.EvLearn, Id: 1, A: 1, B: 8}, {Kind: api.EvHeard, Id: number, Code: api.Good, A: 1}})
	out, err = n.Request(ask(0, 7))
	want(t, n, out, err, []api.Event{{Kind: api.EvCame, Id: 0, A: 7, B: 8}, {Kind: api.EvStart, Id: 0, B: 1000}})
	// Items and calls are counted on.
	if jobs := n.Jobs(); jobs[0].Item.Seq != 6 {
		t.Errorf("jobs: %v", jobs)
	}
	if out, _ := n.Done(0); out.Events[0].B != number+2 {
		t.Errorf("calls: %v", out.Events)
	}
	if out, _ := n.Restart(); out.Events[1].Id != 3 {
		t.Errorf("again: %v", out.Events)
	}
}

func TestNilAndZero(t *testing.T) {
	for _, n := range []*node.Node{nil, {}} {
		for _, do := range []func() (api.Out, api.Errno){
			func() (api.Out, api.Errno) { return n.Request(ask(1, 0)) }, func() (api.Out, api.Errno) { return n.Request(api.Request{}) }, func() (api.Out, api.Errno) { return n.Done(1) },
			func() (api.Out, api.Errno) { return n.Broken(1) }, func() (api.Out, api.Errno) { return n.Reply(api.Reply{}) }, func() (api.Out, api.Errno) { return n.Push(api.Push{}) },
			n.Tick, n.Restart,
		} {
			out, err := do()
			refused(t, out, err, api.ErrNone)
		}
		if n.Now() != 0 || n.Version() != 0 || n.Threshold() != 0 || n.Tier() != 0 || n.Epoch() != 0 || n.Calm() != 0 ||
			len(n.Queue()) != 0 || len(n.Jobs()) != 0 || len(n.Known()) != 0 || len(n.Seen()) != 0 {
			t.Error("is something")
		}
	}
}

// life follows a service by its events, and holds them against what is promised of every service.
type life struct {
	t         *testing.T
	n         *node.Node
	conf      api.Service
	state     map[int]string // judged, waits, works; nothing if over
	asked     map[int]api.Request
	epoch     int
	pass      int // the least urgent level that passed in this window
	stop      int // the most urgent one that did not
	cameInAll int
	ended     int
	erased    int
}

func (l *life) take(out api.Out) {
	for _, v := range out.Events {
		switch v.Kind {
		case api.EvCame:
			l.cameInAll++
			if l.state[v.Id] != "" {
				l.t.Fatalf("came while it %s: %v", l.state[v.Id], v)
			}
			l.state[v.Id] = "judged"
			if v.Code == 0 {
				l.state[v.Id] = "waits"
				l.pass = max(l.pass, v.A)
			} else if v.Code == api.Refused {
				l.stop = min(l.stop, v.A)
			}
			if l.pass >= l.stop {
				l.t.Fatalf("%d passed, but %d did not", l.pass, l.stop)
			}
		case api.EvStart:
			r := l.asked[v.Id]
			if l.state[v.Id] != "waits" || v.A > r.Budget || v.B != r.Deadline || r.Deadline <= v.Tick {
				l.t.Fatalf("started: %v of %v while it %s", v, r, l.state[v.Id])
			}
			l.state[v.Id] = "works"
		case api.EvEnd:
			if l.state[v.Id] == "" {
				l.t.Fatalf("ended: %v", v)
			}
			delete(l.state, v.Id)
			l.ended++
		case api.EvErase:
			if l.state[v.Id] != "waits" && l.state[v.Id] != "works" {
				l.t.Fatalf("erased: %v", v)
			}
			delete(l.state, v.Id)
			l.erased++
		case api.EvClose, api.EvPush, api.EvRestart:
			l.pass, l.stop = -1, api.MaxLevels
		}
	}
	for id, s := range l.state {
		if s == "judged" {
			l.t.Fatalf("%d was judged, but not answered", id)
		}
	}
	answers := 0
	for _, f := range out.Frames {
		if f.Kind == api.KindReply {
			answers++
		}
	}
	ends := 0
	for _, v := range out.Events {
		if v.Kind == api.EvEnd {
			ends++
		}
	}
	if answers != ends {
		l.t.Fatalf("%d answers to %d ends", answers, ends)
	}
	if len(l.n.Queue()) > l.conf.Queue || len(l.n.Jobs()) > l.conf.Workers || len(l.n.Queue())+len(l.n.Jobs()) != len(l.state) {
		l.t.Fatalf("%d wait, %d are worked on, %d are open", len(l.n.Queue()), len(l.n.Jobs()), len(l.state))
	}
	if l.n.Epoch() < l.epoch || l.n.Calm() > calm.Worst(l.conf.Knobs, 8, l.conf.Tiers) {
		l.t.Fatalf("epoch %d behind %d, calm %d", l.n.Epoch(), l.epoch, l.n.Calm())
	}
	l.epoch = l.n.Epoch()
}

func TestWhateverIsDone(t *testing.T) {
	seed := uint32(47)
	next := func(k int) int {
		seed = seed*1664525 + 1013904223
		return int(seed>>16) % k
	}
	for round := 0; round < 60; round++ {
		s := three(func(x *api.Service) {
			x.Workers, x.Queue, x.Window, x.Seen = 1+next(3), 1+next(4), 1+next(6), next(9)
			x.Knobs = api.Knobs{Low: next(3), High: 2 + next(3), Cut: 1 + next(99), Lift: 1 + next(100), Floor: next(9), Turn: 1 + next(3), Dwell: 1 + next(3)}
		})
		n, twin := made(t, s, 0), made(t, s, 0)
		l := &life{t: t, n: n, conf: s.Services[0], state: map[int]string{}, asked: map[int]api.Request{}, pass: -1, stop: api.MaxLevels}
		for step := 0; step < 400; step++ {
			var do func(n *node.Node) (api.Out, api.Errno)
			switch next(12) {
			case 0, 1, 2, 3, 4:
				r := api.Request{Id: next(60), From: next(3) - 1, To: 0, Level: next(9), Deadline: n.Now() + next(15), Budget: next(8)}
				if l.state[r.Id] == "" {
					l.asked[r.Id] = r
				}
				do = func(n *node.Node) (api.Out, api.Errno) { return n.Request(r) }
			case 5, 6:
				do = func(n *node.Node) (api.Out, api.Errno) { return n.Tick() }
			case 7, 8:
				id := next(60)
				if jobs := n.Jobs(); len(jobs) > 0 {
					id = jobs[next(len(jobs))].Item.Id
				}
				do = func(n *node.Node) (api.Out, api.Errno) { return n.Done(id) }
				if next(4) == 0 {
					do = func(n *node.Node) (api.Out, api.Errno) { return n.Broken(id) }
				}
			case 9, 10:
				r := api.Reply{Id: number + next(20), From: next(4), To: 0, Code: 1 + next(3), Threshold: next(9), Epoch: next(5)}
				if jobs := n.Jobs(); len(jobs) > 0 && len(jobs[0].Needs) > 0 {
					r.Id = jobs[0].Needs[0]
				}
				do = func(n *node.Node) (api.Out, api.Errno) { return n.Reply(r) }
			case 11:
				do = func(n *node.Node) (api.Out, api.Errno) { return n.Restart() }
				if next(4) > 0 {
					p := api.Push{To: next(2), Version: next(9), Knobs: s.Services[0].Knobs}
					do = func(n *node.Node) (api.Out, api.Errno) { return n.Push(p) }
				}
			}
			before := n.Epoch()
			out, err := do(n)
			again, errAgain := do(twin)
			if err != errAgain || !slices.Equal(out.Events, again.Events) || !slices.Equal(out.Frames, again.Frames) {
				t.Fatalf("the same actions lead to %v and %v", out, again)
			}
			if err != api.OK && (len(out.Events) > 0 || len(out.Frames) > 0) {
				t.Fatalf("%v beside %v", out, err)
			}
			l.take(out)
			for _, v := range out.Events {
				if v.S != 0 || v.Tick != n.Now() || v.Kind == api.EvRestart && (v.Id != before+1 || n.Threshold() != 8) {
					t.Fatalf("%v", v)
				}
			}
		}
		if l.cameInAll != l.ended+l.erased+len(l.state) {
			t.Errorf("%d came, %d ended, %d were erased, %d are open", l.cameInAll, l.ended, l.erased, len(l.state))
		}
	}
}
