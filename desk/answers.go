package desk

import (
	"strings"

	"lockkeeper/api"
	"lockkeeper/dec"
	"lockkeeper/frame"
	"lockkeeper/ledger"
	"lockkeeper/mono"
	"lockkeeper/play"
	"lockkeeper/pump"
	"lockkeeper/report"
	"lockkeeper/shed"
	"lockkeeper/trace"
	"lockkeeper/words"
)

// keep notes what was done, and answers with the lines of its events.
func (d *Desk) keep(acts []api.Act, events []api.Event) string {
	d.acts = append(d.acts, acts...)
	d.events = append(d.events, events...)
	return linesOf(events)
}

func linesOf(events []api.Event) string {
	text, err := trace.Text(events...)
	must(err)
	return text
}

func (d *Desk) run(a args) string {
	acts, events := pump.Run(d.at, a.numbers[0])
	return d.keep(acts, events) + lineOf("done", len(acts))
}

func (d *Desk) ticks(a args) string {
	acts, events := pump.Ticks(d.at, a.numbers[0], a.numbers[1])
	return d.keep(acts, events) + lineOf("done", len(acts))
}

func (d *Desk) show(a args) string {
	s := a.numbers[0]
	return words.Join("service", dec.Text(s), "threshold", dec.Text(d.at.Threshold(s)), "tier", dec.Text(d.at.Tier(s)),
		"epoch", dec.Text(d.at.Epoch(s)), "calm", dec.Text(d.at.Calm(s)),
		"waits", dec.Text(len(d.at.Queue(s))), "works", dec.Text(len(d.at.Jobs(s)))) + "\n"
}

func (d *Desk) queue(a args) string {
	var text strings.Builder
	for _, x := range d.at.Queue(a.numbers[0]) {
		text.WriteString(words.Join("wait", dec.Text(x.Id), dec.Text(x.Level), dec.Text(x.Deadline), dec.Text(x.Budget), dec.Text(x.Since)) + "\n")
	}
	return text.String()
}

func (d *Desk) links(args) string {
	var text strings.Builder
	for _, link := range d.at.Links() {
		from, to := link[0], link[1]
		text.WriteString(words.Join("link", frame.Who(from), frame.Who(to), dec.Text(d.frames(from, to))) + "\n")
	}
	return text.String()
}

// frames is how many are on a link.
func (d *Desk) frames(from, to int) int {
	n := 0
	for {
		if _, err := d.at.At(from, to, n); err != api.OK {
			return n
		}
		n++
	}
}

func (d *Desk) report(a args) string {
	r, _, err := report.Of(a.numbers[0], d.events...)
	must(err)
	return report.Line(r) + "\n"
}

func (d *Desk) windows(a args) string {
	reports, _, err := report.Windows(a.numbers[0], d.events...)
	must(err)
	var text strings.Builder
	for _, r := range reports {
		text.WriteString(report.Line(r) + "\n")
	}
	return text.String()
}

func (d *Desk) levels(a args) string {
	all, good, err := report.Levels(a.numbers[0], d.at.Levels(), d.events...)
	must(err)
	table, err := report.Table(d.site.Business, d.site.Classes, all, good)
	must(err)
	return table
}

// last are as many of the last events as are wanted, as far as there are so many.
func (d *Desk) last(n int) []api.Event {
	return d.events[len(d.events)-max(0, min(n, len(d.events))):]
}

func (d *Desk) tell(a args) string {
	var text strings.Builder
	for _, v := range d.last(a.numbers[0]) {
		told, err := trace.Tell(v)
		must(err)
		text.WriteString(told + "\n")
	}
	return text.String()
}

func (d *Desk) trace(a args) string { return linesOf(d.last(a.numbers[0])) }

func (d *Desk) check(args) string {
	_, _, err := ledger.Read(d.events...)
	_, shedWrong := shed.Wrong(d.site, d.events...)
	return verdict("ledger", err != api.OK) + verdict("mono", d.monoWrong()) + verdict("shed", shedWrong)
}

func (d *Desk) monoWrong() bool {
	for s := range d.at.Services() {
		if _, wrong := mono.Wrong(s, d.events...); wrong {
			return true
		}
	}
	return false
}

func verdict(name string, wrong bool) string {
	if wrong {
		return words.Join(name, "wrong") + "\n"
	}
	return words.Join(name, "right") + "\n"
}

// text is nothing if there are more acts than a text may have.
func (d *Desk) text(args) string {
	text, err := play.Text(d.site, d.acts...)
	if err != api.OK {
		return ""
	}
	return text
}
