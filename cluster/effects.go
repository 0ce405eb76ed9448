package cluster

import (
	"lockkeeper/api"
	"lockkeeper/bound"
	"lockkeeper/frame"
	"lockkeeper/node"
	"lockkeeper/push"
)

// effect is what an act of some kind does; with an error it does nothing.
type effect func(a api.Act) ([]api.Event, api.Errno)

func (c *Cluster) effects() map[int]effect {
	return map[int]effect{
		api.ActAsk:     c.ask,
		api.ActTick:    c.tick,
		api.ActDeliver: c.deliver,
		api.ActDrop:    c.drop,
		api.ActTwin:    c.twin,
		api.ActDone:    c.done,
		api.ActFail:    c.fail,
		api.ActRestart: c.restart,
		api.ActPush:    c.push,
		api.ActRaw:     c.raw,
	}
}

func (c *Cluster) ask(a api.Act) ([]api.Event, api.Errno) {
	if c.node(a.S) == nil {
		return nil, api.ErrNone
	}
	level, err := c.grid.Of(a.Business, c.users.Class(uint64(a.User), c.now))
	if err != api.OK || a.Ttl < 0 || a.Ttl > api.MaxTicks || a.Budget < 0 || a.Budget > api.MaxBudget {
		return nil, api.ErrArg
	}
	c.asked++
	r := api.Request{Id: c.asked, From: api.Client, To: a.S, Level: level, Deadline: bound.Later(c.now, a.Ttl), Budget: a.Budget}
	told := api.Event{Kind: api.EvAsk, Tick: c.now, S: a.S, Id: r.Id, A: r.Level, B: r.Deadline}
	return append([]api.Event{told}, c.send(api.Frame{Kind: api.KindRequest, Request: r})...), api.OK
}

// send tells what is lost, if there is no room on the link.
func (c *Cluster) send(f api.Frame) []api.Event {
	bytes, _ := frame.Encode(f)
	from, to := frame.Ends(f)
	if c.links.Put(from, to, bytes) == api.OK {
		return nil
	}
	return []api.Event{c.lost(f)}
}

func (c *Cluster) lost(f api.Frame) api.Event {
	from, to := frame.Ends(f)
	return api.Event{Kind: api.EvLost, Tick: c.now, S: from, Id: idOf(partOf(f)), Code: f.Kind, A: from, B: to}
}

// partOf is the request, the reply or the push that a frame is.
func partOf(f api.Frame) any {
	if r, ok := frame.Request(f); ok {
		return r
	}
	if r, ok := frame.Reply(f); ok {
		return r
	}
	return f.Push
}

func idOf(part any) int {
	if r, ok := part.(api.Request); ok {
		return r.Id
	}
	if r, ok := part.(api.Reply); ok {
		return r.Id
	}
	p, _ := part.(api.Push)
	return p.Version
}

// hand lets a service take what has arrived.
func hand(n *node.Node, part any) (api.Out, api.Errno) {
	if r, ok := part.(api.Request); ok {
		return n.Request(r)
	}
	if r, ok := part.(api.Reply); ok {
		return n.Reply(r)
	}
	p, _ := part.(api.Push)
	return n.Push(p)
}

// acted is what a service's output comes to: its events, and then what is lost of its frames.
func (c *Cluster) acted(out api.Out, err api.Errno) ([]api.Event, api.Errno) {
	if err != api.OK {
		return nil, err
	}
	events := out.Events
	for _, f := range out.Frames {
		events = append(events, c.send(f)...)
	}
	return events, api.OK
}

func (c *Cluster) tick(api.Act) ([]api.Event, api.Errno) {
	c.now = bound.Later(c.now, 1)
	var events []api.Event
	for _, n := range c.nodes {
		more, _ := c.acted(n.Tick())
		events = append(events, more...)
	}
	return events, api.OK
}

// A service that is none answers ErrNone itself.

func (c *Cluster) done(a api.Act) ([]api.Event, api.Errno) { return c.acted(c.node(a.S).Done(a.Id)) }

func (c *Cluster) fail(a api.Act) ([]api.Event, api.Errno) { return c.acted(c.node(a.S).Broken(a.Id)) }

func (c *Cluster) restart(a api.Act) ([]api.Event, api.Errno) {
	return c.acted(c.node(a.S).Restart())
}

func (c *Cluster) deliver(a api.Act) ([]api.Event, api.Errno) {
	f, err := c.At(a.From, a.S, a.N)
	if err != api.OK {
		return nil, err
	}
	if a.S == api.Client {
		c.links.Take(a.From, a.S, a.N)
		r, _ := frame.Reply(f)
		return []api.Event{{Kind: api.EvAnswer, Tick: c.now, S: a.From, Id: r.Id, Code: r.Code}}, api.OK
	}
	out, err := hand(c.node(a.S), partOf(f))
	if err != api.OK {
		return nil, err
	}
	// What arrives has left its link before the answers are sent.
	c.links.Take(a.From, a.S, a.N)
	return c.acted(out, api.OK)
}

func (c *Cluster) drop(a api.Act) ([]api.Event, api.Errno) {
	f, err := c.At(a.From, a.S, a.N)
	if err != api.OK {
		return nil, err
	}
	c.links.Take(a.From, a.S, a.N)
	return []api.Event{c.lost(f)}, api.OK
}

func (c *Cluster) twin(a api.Act) ([]api.Event, api.Errno) {
	return nil, c.links.Twin(a.From, a.S, a.N)
}

func (c *Cluster) push(a api.Act) ([]api.Event, api.Errno) {
	if c.node(a.S) == nil {
		return nil, api.ErrNone
	}
	p := api.Push{To: a.S, Version: a.Version, Knobs: a.Knobs}
	if err := push.Check(p); err != api.OK {
		return nil, err
	}
	return c.send(api.Frame{Kind: api.KindPush, Push: p}), api.OK
}

func (c *Cluster) raw(a api.Act) ([]api.Event, api.Errno) {
	if !c.links.Has(a.From, a.S) {
		return nil, api.ErrNone
	}
	f, err := frame.Decode(a.Bytes)
	if err != api.OK {
		return nil, err
	}
	// A push comes from the client, so its ends say so too.
	from, to := frame.Ends(f)
	if from != a.From || to != a.S || f.Kind == api.KindRequest && f.Request.Level >= c.Levels() {
		return nil, api.ErrArg
	}
	return nil, c.links.Put(from, to, a.Bytes)
}
