package report_test

import (
	"slices"
	"strings"
	"testing"

	"lockkeeper/api"
	"lockkeeper/cluster"
	"lockkeeper/report"
	"lockkeeper/site"
)

func ev(kind, s, id, code, a int) api.Event {
	return api.Event{Kind: kind, S: s, Id: id, Code: code, A: a, B: 8}
}

// day is what may come to pass at services 0 and 1, in two windows of service 0.
func day() []api.Event {
	const came, start, end = api.EvCame, api.EvStart, api.EvEnd
	return []api.Event{
		ev(api.EvAsk, 0, 1, 0, 2), ev(came, 0, 1, 0, 2), ev(start, 0, 1, 0, 0), ev(came, 0, 2, api.Refused, 7), ev(end, 0, 2, api.Refused, 7), ev(came, 1, 1, 0, 3), ev(start, 1, 1, 0, 90),
		ev(came, 0, 3, 0, 2), ev(api.EvCall, 0, 1, 0, 1), ev(api.EvCall, 0, 1, 0, 1), ev(api.EvSkip, 0, 1, api.Cut, 1), ev(end, 0, 1, api.Good, 2), ev(start, 0, 3, 0, 7),
		ev(api.EvClose, 0, 1, 1, 8), ev(api.EvClose, 1, 1, 1, 8), ev(came, 0, 4, api.Expired, 0), ev(end, 0, 4, api.Expired, 0), ev(end, 0, 3, api.Good, 2), ev(came, 0, 5, 0, 1),
		ev(start, 0, 5, 0, 4), ev(api.EvClose, 0, 1, 1, 8), ev(api.EvErase, 0, 5, 0, 1), ev(api.EvRestart, 0, 2, 0, 8), ev(came, 0, 6, 0, 5),
	}
}

// impossible begins with what can be, and then has what cannot.
func impossible() []api.Event {
	return append(day()[:5], ev(api.EvEnd, 1, 1, api.Good, 2))
}

func TestOf(t *testing.T) {
	want := api.Report{Decided: 6, Passed: 4, Refused: 1, Started: 3, Good: 2, Bad: 2, Erased: 1, Calls: 2, Skips: 1, Windows: 2, Worst: 7, Share: 33}
	if got, at, err := report.Of(0, day()...); got != want || at != 0 || err != api.OK {
		t.Errorf("Of(0) = %v, %d, %v", got, at, err)
	}
	if got, _, err := report.Of(1, day()...); got != (api.Report{Decided: 1, Passed: 1, Started: 1, Windows: 1, Worst: 90}) || err != api.OK {
		t.Errorf("Of(1) = %v, %v", got, err)
	}
	if got, at, err := report.Of(2, day()...); got != (api.Report{}) || at != 0 || err != api.OK {
		t.Errorf("Of(2) = %v, %d, %v", got, at, err)
	}
	for s := range 3 {
		if got, at, err := report.Of(s, impossible()...); got != (api.Report{}) || at != 5 || err != api.ErrState {
			t.Errorf("what cannot be, of %d: %v, %d, %v", s, got, at, err)
		}
	}
	below := []api.Event{ev(api.EvCame, 0, 1, 0, 2), ev(api.EvStart, 0, 1, 0, -5)}
	if got, _, _ := report.Of(0, below...); got.Worst != 0 {
		t.Errorf("none is greater than 0: %v", got)
	}
	three := []api.Event{}
	for id := range 4 {
		three = append(three, ev(api.EvCame, 0, id, 0, 1), ev(api.EvStart, 0, id, 0, 0), ev(api.EvEnd, 0, id, 1+id/3, 1))
	}
	if got, _, _ := report.Of(0, three...); got.Share != 75 {
		t.Errorf("3 of 4: %v", got)
	}
	if got, _, _ := report.Of(0, three[:9]...); got.Share != 100 {
		t.Errorf("3 of 3: %v", got)
	}
}

func TestLevels(t *testing.T) {
	all, good, err := report.Levels(0, 8, day()...)
	if !slices.Equal(all, []int{1, 1, 2, 0, 0, 1, 0, 1}) || !slices.Equal(good, []int{0, 0, 2, 0, 0, 0, 0, 0}) || err != api.OK {
		t.Errorf("Levels = %v, %v, %v", all, good, err)
	}
	if all, good, err := report.Levels(0, 2, day()...); !slices.Equal(all, []int{1, 1}) || !slices.Equal(good, []int{0, 0}) || err != api.OK {
		t.Errorf("Levels of 2 = %v, %v, %v", all, good, err)
	}
	if all, good, err := report.Levels(0, 0, day()...); len(all) != 0 || len(good) != 0 || err != api.OK {
		t.Errorf("Levels of 0 = %v, %v, %v", all, good, err)
	}
	if all, good, err := report.Levels(5, 128, ev(api.EvCame, 5, 1, 0, 127), ev(api.EvCame, 5, 2, 0, -1), ev(api.EvCame, 5, 3, 0, 128)); all[127] != 1 || len(good) != 128 || err != api.OK {
		t.Errorf("Levels of 128 = %v, %v, %v", all, good, err)
	}
	for _, levels := range []int{-1, 129, api.MinInt, api.MaxInt} {
		if all, good, err := report.Levels(0, levels, impossible()...); len(all) != 0 || len(good) != 0 || err != api.ErrArg {
			t.Errorf("Levels of %d = %v, %v, %v", levels, all, good, err)
		}
	}
	if all, good, err := report.Levels(0, 8, impossible()...); len(all) != 0 || len(good) != 0 || err != api.ErrState {
		t.Errorf("what cannot be: %v, %v, %v", all, good, err)
	}
}

func TestWindows(t *testing.T) {
	want := []api.Report{
		{Decided: 3, Passed: 2, Refused: 1, Started: 2, Good: 1, Bad: 1, Calls: 2, Skips: 1, Windows: 1, Worst: 7, Share: 33},
		{Decided: 2, Passed: 1, Started: 1, Good: 1, Bad: 1, Windows: 1, Worst: 4, Share: 50},
		{Decided: 1, Passed: 1, Erased: 1},
	}
	if got, at, err := report.Windows(0, day()...); !slices.Equal(got, want) || at != 0 || err != api.OK {
		t.Errorf("Windows = %v, %d, %v", got, at, err)
	}
	if got, at, err := report.Windows(3, day()...); !slices.Equal(got, []api.Report{{}}) || at != 0 || err != api.OK {
		t.Errorf("Windows of nobody = %v, %d, %v", got, at, err)
	}
	if got, at, err := report.Windows(0, impossible()...); len(got) != 0 || at != 5 || err != api.ErrState {
		t.Errorf("what cannot be: %v, %d, %v", got, at, err)
	}
	// Taken together, they are the report of all.
	var sum api.Report
	for _, r := range want {
		sum = report.Add(sum, r)
	}
	if all, _, _ := report.Of(0, day()...); sum != all {
		t.Errorf("together %v, all %v", sum, all)
	}
}

func TestTable(t *testing.T) {
	all, good := []int{1, 0, 25, -3, 0, 4}, []int{1, 7, 0, 5, 0, -2}
	const want = "level 0.0 decided 1 good 1\nlevel 0.2 decided 25 good 0\nlevel 1.2 decided 4 good -2\n"
	if got, err := report.Table(2, 3, all, good); got != want || err != api.OK {
		t.Errorf("Table = %q, %v", got, err)
	}
	if got, err := report.Table(1, 1, []int{0}, []int{0}); got != "" || err != api.OK {
		t.Errorf("Table of nothing = %q, %v", got, err)
	}
	for _, c := range []struct {
		business, classes int
		all, good         []int
	}{{2, 3, all[:5], good}, {2, 3, all, good[:5]}, {0, 3, nil, nil}, {2, 17, all, good}, {3, 3, all, good}, {9, 1, make([]int, 9), make([]int, 9)}, {-1, -1, []int{1}, []int{1}}} {
		if got, err := report.Table(c.business, c.classes, c.all, c.good); got != "" || err != api.ErrArg {
			t.Errorf("Table(%d, %d, %v, %v) = %q, %v", c.business, c.classes, c.all, c.good, got, err)
		}
	}
}

var counted = api.Report{Decided: 1, Passed: 2, Refused: 3, Started: 4, Good: 5, Bad: 6, Erased: 7, Calls: 8, Skips: 9, Windows: 10, Worst: 11, Share: 12}

const countedLine = "report decided=1 passed=2 refused=3 started=4 good=5 bad=6 erased=7 calls=8 skips=9 windows=10 worst=11 share=12"

func TestLine(t *testing.T) {
	if got := report.Line(counted); got != countedLine {
		t.Errorf("Line = %q", got)
	}
	for _, r := range []api.Report{counted, {}, {Decided: -1, Share: api.MaxInt, Worst: api.MinInt}} {
		if got, err := report.Parse(report.Line(r)); got != r || err != api.OK {
			t.Errorf("Parse(Line(%v)) = %v, %v", r, got, err)
		}
	}
	if got, err := report.Parse(" " + strings.ReplaceAll(countedLine, " ", "\t ") + "#"); got != counted || err != api.OK {
		t.Errorf("with blanks and a comment: %v, %v", got, err)
	}
	for _, line := range []string{"", "report", countedLine + " more=1", strings.TrimSuffix(countedLine, " share=12"), strings.Replace(countedLine, "good", "bad", 1), strings.Replace(countedLine, "=7", "=07", 1), "r" + countedLine} {
		if got, err := report.Parse(line); got != (api.Report{}) || err != api.ErrForm {
			t.Errorf("Parse(%q) = %v, %v", line, got, err)
		}
	}
}

func TestAdd(t *testing.T) {
	other := api.Report{Decided: 9, Passed: 20, Refused: 30, Started: 40, Good: 0, Bad: 60, Erased: 70, Calls: 80, Skips: 90, Windows: 100, Worst: 5, Share: 99}
	want := api.Report{Decided: 10, Passed: 22, Refused: 33, Started: 44, Good: 5, Bad: 66, Erased: 77, Calls: 88, Skips: 99, Windows: 110, Worst: 11, Share: 50}
	if got := report.Add(counted, other); got != want {
		t.Errorf("Add = %v", got)
	}
	if got := report.Add(other, counted); got != want {
		t.Errorf("Add the other way = %v", got)
	}
	great := api.Report{Decided: api.MaxCount, Good: api.MaxCount, Bad: api.MaxInt, Worst: api.MaxInt, Erased: -5, Calls: api.MinInt}
	if got := report.Add(great, great); got != (api.Report{Decided: api.MaxCount, Good: api.MaxCount, Bad: api.MaxCount, Worst: api.MaxCount, Share: 1}) {
		t.Errorf("great numbers: %v", got)
	}
	if got := report.Add(api.Report{Worst: -7, Share: 3, Good: 4}, api.Report{Worst: -5}); got != (api.Report{Good: 4}) {
		t.Errorf("nothing decided: %v", got)
	}
}

func TestRight(t *testing.T) {
	good := api.Report{Decided: 10, Passed: 7, Refused: 3, Started: 6, Good: 5, Bad: 3, Erased: 2, Calls: 99, Skips: 99, Windows: 99, Worst: 99, Share: 50}
	if !report.Right(good) || !report.Right(api.Report{}) {
		t.Error("reports that may be")
	}
	for i, change := range []func(r *api.Report){
		func(r *api.Report) { r.Refused++ }, func(r *api.Report) { r.Started = 8 }, func(r *api.Report) { r.Started = 4 }, func(r *api.Report) { r.Bad++ }, func(r *api.Report) { r.Erased++ },
		func(r *api.Report) { r.Share++ }, func(r *api.Report) { r.Share-- }, func(r *api.Report) { r.Calls = -1 }, func(r *api.Report) { r.Skips = -1 }, func(r *api.Report) { r.Windows = -1 },
		func(r *api.Report) { r.Worst = -1 }, func(r *api.Report) { r.Bad = -1 }, func(r *api.Report) { r.Decided = 9 }, func(r *api.Report) { r.Erased = -1 }, func(r *api.Report) { r.Refused = -1 },
		func(r *api.Report) { *r = api.Report{Share: 1} }, func(r *api.Report) { *r = api.Report{Decided: -1} },
	} {
		r := good
		change(&r)
		if report.Right(r) {
			t.Errorf("change %d: %v", i, r)
		}
	}
	// Numbers beyond counts: sums stop at the greatest count, the division goes by the number itself.
	great := api.Report{Decided: api.MaxInt, Passed: api.MaxInt, Refused: api.MaxInt, Started: api.MaxInt, Good: api.MaxInt, Bad: api.MaxInt}
	if !report.Right(great) {
		t.Errorf("%v", great)
	}
	great.Share = 1
	if report.Right(great) {
		t.Errorf("%v", great)
	}
}

func TestReportsOfASiteAreRight(t *testing.T) {
	s, _ := site.Usual(2)
	c, err := cluster.New(s)
	if err != api.OK {
		t.Fatal(err)
	}
	seed := uint32(73)
	next := func(k int) int {
		seed = seed*1664525 + 1013904223
		return int(seed>>16) % k
	}
	var events []api.Event
	for range 1500 {
		a := api.Act{Kind: api.ActAsk, S: next(2), Business: next(2), User: next(20), Ttl: next(40), Budget: next(20)}
		switch links := c.Links(); next(5) {
		case 0, 1:
			if len(links) > 0 {
				a = api.Act{Kind: api.ActDeliver, From: links[0][0], S: links[0][1]}
			}
		case 2, 3:
			if jobs := c.Jobs(next(2)); len(jobs) > 0 {
				a = api.Act{Kind: api.ActDone, S: next(2), Id: jobs[0].Item.Id}
			}
		case 4:
			if a = (api.Act{Kind: api.ActTick}); next(90) == 0 {
				a = api.Act{Kind: api.ActRestart, S: next(2)}
			}
		}
		more, _ := c.Do(a)
		events = append(events, more...)
	}
	for id := range 2 {
		r, _, err := report.Of(id, events...)
		all, good, errLevels := report.Levels(id, 8, events...)
		sum := func(l []int) int {
			n := 0
			for _, x := range l {
				n += x
			}
			return n
		}
		if err != api.OK || errLevels != api.OK || !report.Right(r) || r.Decided == 0 || sum(all) != r.Decided || sum(good) != r.Good {
			t.Errorf("%v, %v, %v", r, all, good)
		}
	}
}
