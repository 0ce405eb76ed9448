package node

import (
	"lockkeeper/api"
	"lockkeeper/bound"
	"lockkeeper/control"
	"lockkeeper/fan"
	"lockkeeper/job"
	"lockkeeper/push"
	"lockkeeper/queue"
	"lockkeeper/rank"
	"lockkeeper/reply"
	"lockkeeper/request"
	"lockkeeper/seen"
	"lockkeeper/slot"
	"lockkeeper/table"
	"lockkeeper/wait"
)

// controller is an alias, so that it is embedded without a field that others could set.
type controller = control.Control

// service is what a node keeps from action to action.
type service struct {
	*controller
	conf                   api.Service
	self, services, levels int
	now, version           int
	waited, called         int // how many items have waited, and how many calls were made
	seen                   *seen.Seen
	queue                  *queue.Queue
	slots                  *slot.Slots
	jobs                   map[int]api.Job // of the items at the places, by their Ids
	waits                  *wait.Waits
	table                  *table.Table
}

// sink takes an event, and the frames that go out with it.
type sink func(v api.Event, frames ...api.Frame)

// nothing is what actions take that need nothing.
type nothing struct{}

func (s *service) neverWrong(nothing) api.Errno { return api.OK }

// isService tells the services of the site.
func (s *service) isService(n int) bool { return n >= 0 && n < s.services }

func (s *service) wrongRequest(r api.Request) api.Errno {
	if request.Check(r) != api.OK || r.To != s.self || r.From != api.Client && !s.isService(r.From) || r.Level >= s.levels {
		return api.ErrArg
	}
	return api.OK
}

func (s *service) wrongReply(r api.Reply) api.Errno {
	if reply.Check(r) != api.OK || r.To != s.self || !s.isService(r.From) {
		return api.ErrArg
	}
	return api.OK
}

func (s *service) wrongPush(p api.Push) api.Errno {
	if push.Check(p) != api.OK || p.To != s.self {
		return api.ErrArg
	}
	return api.OK
}

func (s *service) wrongId(id int) api.Errno {
	j, found := s.jobs[id]
	if !found {
		return api.ErrNone
	}
	_, err := job.Broken(j)
	return err
}

// isDuplicate looks at all items too, since a window may have room for few ids.
func (s *service) isDuplicate(id int) bool {
	_, worked := s.slots.Place(id)
	return worked || s.queue.Has(id) || s.seen.Has(id)
}

func (s *service) request(r api.Request, say sink) {
	if s.isDuplicate(r.Id) {
		say(api.Event{Kind: api.EvTwice, Id: r.Id})
		return
	}
	s.seen.Note(r.Id)
	s.Saw(r.Level)
	code := s.judge(r)
	say(api.Event{Kind: api.EvCame, Id: r.Id, Code: code, A: r.Level, B: s.Threshold()})
	if code != 0 {
		s.end(request.Item(r, s.now, 0), code, say)
		return
	}
	s.waited++
	if victim, leaves, _ := s.queue.Add(request.Item(r, s.now, s.waited)); leaves {
		s.end(victim, api.Evicted, say)
	}
	s.start(say)
}

// judge is what a request comes to at once: 0, if it waits.
func (s *service) judge(r api.Request) int {
	switch {
	case r.Deadline <= s.now:
		return api.Expired
	case !s.Passes(r.Level):
		return api.Refused
	}
	return 0
}

// end tells an outcome, and sends it to whoever asked.
func (s *service) end(x api.Item, code int, say sink) {
	asked := api.Request{Id: x.Id, From: x.From, To: s.self}
	say(api.Event{Kind: api.EvEnd, Id: x.Id, Code: code, A: x.Level},
		api.Frame{Kind: api.KindReply, Reply: reply.To(asked, code, s.Threshold(), s.Epoch(), s.Tier())})
}

// start lets items be worked on as long as there are places for them.
func (s *service) start(say sink) {
	for s.slots.Free() > 0 {
		x, found := s.queue.Next()
		if !found {
			return
		}
		ticks := bound.Left(s.now, x.Since)
		s.slots.Put(x)
		s.jobs[x.Id] = job.New(x)
		s.Waited(ticks)
		say(api.Event{Kind: api.EvStart, Id: x.Id, A: ticks, B: x.Deadline})
	}
}

// leave lets nothing be left of a job.
func (s *service) leave(id int) {
	s.slots.Take(id)
	s.waits.Drop(id)
	delete(s.jobs, id)
}

// finish ends a job, and gives its place away.
func (s *service) finish(id, code int, say sink) {
	x := s.jobs[id].Item
	s.leave(id)
	s.end(x, code, say)
	s.start(say)
}

func (s *service) broken(id int, say sink) { s.finish(id, api.Broken, say) }

func (s *service) done(id int, say sink) {
	j := s.jobs[id]
	plan := fan.Plan(s.conf, fan.Now{Tier: s.Tier(), Level: j.Item.Level, Tick: s.now, Deadline: j.Item.Deadline}, s.table)
	if plan.Code != 0 {
		s.finish(id, plan.Code, say)
		return
	}
	var needs []int
	for _, step := range plan.Steps {
		if step.Code != 0 {
			say(api.Event{Kind: api.EvSkip, Id: id, Code: step.Code, A: step.To})
			continue
		}
		number := s.call(j.Item, step, say)
		if step.Required {
			needs = append(needs, number)
			s.waits.Add(number, id)
		}
	}
	waiting, code, _ := job.Done(j, needs...)
	if code != 0 {
		s.finish(id, code, say)
		return
	}
	s.jobs[id] = waiting
}

// call asks another service, and tells by which number.
func (s *service) call(x api.Item, step api.Step, say sink) int {
	s.called++
	number := api.MaxNumber*(s.self+1) + s.called%api.MaxNumber
	asked := api.Request{Id: number, From: s.self, To: step.To, Level: x.Level, Deadline: step.Deadline, Budget: step.Budget}
	say(api.Event{Kind: api.EvCall, Id: x.Id, A: step.To, B: number}, api.Frame{Kind: api.KindRequest, Request: asked})
	return number
}

func (s *service) reply(r api.Reply, say sink) {
	if s.table.Learn(r.From, r.Threshold, r.Epoch, s.now) {
		say(api.Event{Kind: api.EvLearn, Id: r.Epoch, A: r.From, B: r.Threshold})
	}
	heard := api.Event{Kind: api.EvHeard, Id: r.Id, Code: r.Code, A: r.From}
	id, waits := s.waits.Take(r.Id)
	if !waits {
		say(heard)
		return
	}
	heard.B = 1
	say(heard)
	next, code := job.Heard(s.jobs[id], r.Id, r.Code)
	if code != 0 {
		s.finish(id, code, say)
		return
	}
	s.jobs[id] = next
}

func (s *service) push(p api.Push, say sink) {
	told := api.Event{Kind: api.EvPush, Id: p.Version}
	if push.Later(p, s.version) && s.Push(p.Knobs) == api.OK {
		s.version = p.Version
		told.Code = 1
	}
	say(told)
}

func (s *service) tick(_ nothing, say sink) {
	s.now = bound.Later(s.now, 1)
	for _, x := range s.queue.Sweep(s.now) {
		s.end(x, rank.Ends(x, s.now), say)
	}
	for _, x := range s.slots.Late(s.now) {
		s.leave(x.Id)
		s.end(x, api.Late, say)
	}
	if s.now%s.conf.Window == 0 {
		c := s.Close()
		say(api.Event{Kind: api.EvClose, Id: c.Epoch, Code: c.Verdict, A: c.Threshold, B: c.Tier})
	}
	s.start(say)
}

func (s *service) restart(_ nothing, say sink) {
	for _, x := range append(s.queue.All(), s.slots.All()...) {
		say(api.Event{Kind: api.EvErase, Id: x.Id, A: x.Level})
	}
	s.queue.Clear()
	s.slots.Clear()
	clear(s.jobs)
	s.waits.Clear()
	s.table.Clear()
	s.seen.Clear()
	s.Restart()
	say(api.Event{Kind: api.EvRestart, Id: s.Epoch(), A: s.Threshold()})
}
