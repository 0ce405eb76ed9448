package desk_test

import (
	"strconv"
	"strings"
	"testing"

	"lockkeeper/api"
	"lockkeeper/calm"
	"lockkeeper/desk"
	"lockkeeper/dwell"
	"lockkeeper/ledger"
	"lockkeeper/mono"
	"lockkeeper/play"
	"lockkeeper/shed"
	"lockkeeper/site"
	"lockkeeper/trace"
)

// chance is the same every time.
type chance uint32

func (c *chance) next(k int) int {
	*c = *c*1664525 + 1013904223
	return int(*c>>16) % k
}

// busySite has services whose windows are short, and which call one another, some of them optionally.
func busySite(c *chance) api.Site {
	s := api.Site{Business: 2, Classes: 1 + c.next(4), Rotate: 1 + c.next(50), Key: uint64(c.next(1000))}
	levels := s.Business * s.Classes
	many := 2 + c.next(3)
	for i := range many {
		x := api.Service{
			Workers: 1 + c.next(2), Queue: 1 + c.next(4), Window: 1 + c.next(4), Tiers: c.next(3), Seen: 256, Ttl: 5 + c.next(30),
			Knobs: api.Knobs{Low: 1, High: 2, Cut: 10 + c.next(80), Lift: 1 + c.next(60), Floor: c.next(levels + 1), Turn: 1 + c.next(4), Dwell: 1 + c.next(4)},
		}
		for to := i + 1; to < many; to++ {
			x.Calls = append(x.Calls, api.Call{To: to, Tier: c.next(x.Tiers + 1), Weight: 1 + c.next(8), Most: 1 + c.next(20)})
		}
		s.Services = append(s.Services, x)
	}
	return s
}

// begun is a desk with that site.
func begun(t *testing.T, s api.Site) *desk.Desk {
	t.Helper()
	d := desk.New()
	for _, line := range strings.Split(site.Text(s), "\n") {
		d.Say("set " + line)
	}
	says(t, d, "begin", "begun "+strconv.Itoa(len(s.Services))+"\n")
	return d
}

// eventsOf are all events that came to pass at a desk.
func eventsOf(t *testing.T, d *desk.Desk) []api.Event {
	t.Helper()
	events, _, err := trace.ParseAll(d.Say("trace " + strconv.Itoa(api.MaxInt)))
	if err != api.OK {
		t.Fatal(err)
	}
	return events
}

func askLine(c *chance, services int) string {
	n := strconv.Itoa
	return "ask " + n(c.next(services)) + " " + n(c.next(2)) + " " + n(c.next(40)) + " " + n(c.next(40)) + " " + n(c.next(20))
}

// anyLine is an act that may be refused.
func anyLine(c *chance, d *desk.Desk, services int) string {
	n := strconv.Itoa
	links := strings.Split(d.Say("links"), "\n")
	ends := strings.Fields(links[c.next(len(links))])
	if len(ends) < 3 {
		ends = []string{"", "client", "0"}
	}
	link := " " + ends[1] + " " + ends[2] + " " + n(c.next(2))
	return []string{
		askLine(c, services), askLine(c, services), "tick", "deliver" + link, "deliver" + link, "drop" + link, "twin" + link, "run " + n(c.next(6)), "ticks 2 " + n(c.next(4)),
		"fail " + n(c.next(services)) + " " + n(1+c.next(50)), "done " + n(c.next(services)) + " " + n(1+c.next(50)), "restart " + n(c.next(services*6)),
	}[c.next(12)]
}

// promised holds events against what is promised of every site.
func promised(t *testing.T, s api.Site, events []api.Event) {
	t.Helper()
	levels := s.Business * s.Classes
	if _, at, err := ledger.Read(events...); err != api.OK {
		t.Errorf("event %d cannot be", at)
	}
	if at, wrong := shed.Wrong(s, events...); wrong {
		t.Errorf("a cut was not announced: %v", events[at])
	}
	for i, x := range s.Services {
		if run, wrong := mono.Wrong(i, events...); wrong {
			t.Errorf("service %d: %v", i, run)
		}
		if move, wrong := dwell.Wrong(i, levels, x.Tiers, x.Knobs, events...); wrong {
			t.Errorf("service %d: %v", i, move)
		}
		epoch, threshold, tier := 1, levels, x.Tiers
		for at, v := range trace.Of(i, events...) {
			if v.Kind != api.EvClose && v.Kind != api.EvRestart {
				continue
			}
			if v.Id < epoch || v.Kind == api.EvRestart && (v.Id == epoch || v.A != levels) || v.Kind == api.EvClose && (v.A != threshold) != (v.Id == epoch+1) {
				t.Errorf("service %d, event %d: %v in epoch %d, threshold %d", i, at, v, epoch, threshold)
			}
			epoch, threshold, tier = v.Id, v.A, v.B
			if v.Kind == api.EvRestart {
				tier = x.Tiers
			}
		}
		if dwell.Calm(i, events...) >= calm.Worst(x.Knobs, levels, x.Tiers) && (threshold != levels || tier != x.Tiers) {
			t.Errorf("service %d is not open after so many calm windows", i)
		}
	}
}

// seenOf is what can be seen of a desk's site at once.
func seenOf(d *desk.Desk, services int) string {
	seen := d.Say("links") + d.Say("trace 3")
	for s := range services {
		seen += d.Say("show "+strconv.Itoa(s)) + d.Say("queue "+strconv.Itoa(s))
	}
	return seen
}

func TestWhateverIsDone(t *testing.T) {
	kinds := make([]int, 16)
	cuts := 0
	for round := range 12 {
		c := chance(79 + round)
		s := busySite(&c)
		d := begun(t, s)
		for range 400 {
			line := anyLine(&c, d, len(s.Services))
			before := seenOf(d, len(s.Services))
			if answer := d.Say(line); strings.HasPrefix(answer, "error ") && seenOf(d, len(s.Services)) != before {
				t.Errorf("%q was refused, but changed something", line)
			}
		}
		says(t, d, "check", right)
		events := eventsOf(t, d)
		promised(t, s, events)
		// What was done is played again, by text and line by line.
		text := d.Say("text")
		told, _ := trace.Text(events...)
		if got, _, err := play.Play(text); got != told || err != api.OK {
			t.Errorf("round %d: played again, it is not the same: %v", round, err)
		}
		again := begun(t, s)
		if _, acts, _ := strings.Cut(text, "\ngo\n"); again.All(acts) != told {
			t.Errorf("round %d: line by line, it is not the same", round)
		}
		for kind, n := range trace.Count(events...) {
			kinds[kind] += n
		}
		for i := range s.Services {
			cuts += shed.Cuts(i, events...)
		}
	}
	for kind, n := range kinds {
		if n == 0 && kind != 0 && kind != api.EvPush {
			t.Errorf("nothing to see of kind %d", kind)
		}
	}
	if cuts == 0 {
		t.Error("nothing was cut")
	}
}

func TestEveryRequestIsAnsweredOnce(t *testing.T) {
	outcomes := map[int]int{}
	for round := range 12 {
		c := chance(83 + round)
		s := busySite(&c)
		d := begun(t, s)
		for range 150 {
			d.Say(askLine(&c, len(s.Services)))
			d.Say("run " + strconv.Itoa(c.next(8)))
			if c.next(3) == 0 {
				d.Say("tick")
			}
		}
		// All that is on its way arrives, all work is done, and all deadlines pass.
		d.Say("run 4000")
		d.Say("ticks 50 4000")
		events := eventsOf(t, d)
		promised(t, s, events)
		answers := map[int]int{}
		for _, v := range events {
			switch v.Kind {
			case api.EvAnswer:
				answers[v.Id]++
				outcomes[v.Code]++
			case api.EvLost, api.EvTwice:
				t.Errorf("round %d: %v", round, v)
			}
		}
		for id := 1; id <= 150; id++ {
			if answers[id] != 1 {
				t.Errorf("round %d: request %d was answered %d times", round, id, answers[id])
			}
		}
		fates, _, _ := ledger.Read(events...)
		if open := ledger.Open(fates...); len(open) > 0 {
			t.Errorf("round %d: still open: %v", round, open)
		}
		if counts := trace.Count(events...); counts[api.EvCame] != counts[api.EvEnd] || len(fates) != counts[api.EvCame] {
			t.Errorf("round %d: %d came, %d ended", round, counts[api.EvCame], counts[api.EvEnd])
		}
	}
	for _, code := range []int{api.Good, api.Refused, api.Expired, api.Spent, api.Evicted, api.Late, api.Failed} {
		if outcomes[code] == 0 {
			t.Errorf("nothing to see of the outcome %d", code)
		}
	}
}
