package rank_test

import (
	"slices"
	"testing"

	"lockkeeper/api"
	"lockkeeper/rank"
)

// items are all that differ, or not, in the numbers that orders look at.
func items() []api.Item {
	var l []api.Item
	for _, level := range []int{-1, 0, 7} {
		for _, deadline := range []int{api.MinInt, 4, api.MaxInt} {
			for _, seq := range []int{-2, 9} {
				for _, id := range []int{1, 2} {
					l = append(l, api.Item{Id: id, Level: level, Deadline: deadline, Seq: seq, From: id * 3, Since: -seq, Budget: level})
				}
			}
		}
	}
	return l
}

func less(a, b []int) bool { return slices.Compare(a, b) < 0 }

func TestBeforeAndWorseCompareOneNumberAfterTheOther(t *testing.T) {
	for _, a := range items() {
		for _, b := range items() {
			if got, want := rank.Before(a, b), less([]int{a.Deadline, a.Seq, a.Id}, []int{b.Deadline, b.Seq, b.Id}); got != want {
				t.Errorf("Before(%v, %v) = %v", a, b, got)
			}
			if got, want := rank.Worse(a, b), less([]int{b.Level, b.Deadline, b.Seq, b.Id}, []int{a.Level, a.Deadline, a.Seq, a.Id}); got != want {
				t.Errorf("Worse(%v, %v) = %v", a, b, got)
			}
		}
	}
	if !rank.Before(api.Item{Deadline: 5, Seq: 9}, api.Item{Deadline: 6, Seq: 1}) {
		t.Error("the deadline decides first")
	}
}

func TestSortKeepsTheOrderOfEquals(t *testing.T) {
	l := items()
	// The other fields decide nothing, so each item here has equals.
	for i := range l {
		l[i].From = i
	}
	given := slices.Clone(l)
	sorted := rank.Sort(l...)
	if !slices.Equal(l, given) {
		t.Error("the argument was changed")
	}
	if len(sorted) != len(l) {
		t.Fatalf("%d items of %d", len(sorted), len(l))
	}
	seen := map[int]bool{}
	for i, x := range sorted {
		seen[x.From] = true
		for _, y := range sorted[:i] {
			if rank.Before(x, y) || !rank.Before(y, x) && y.From > x.From {
				t.Errorf("%v stands behind %v", x, y)
			}
		}
	}
	if len(seen) != len(l) {
		t.Errorf("%d different items of %d", len(seen), len(l))
	}
	if got := rank.Sort(); len(got) != 0 {
		t.Errorf("Sort of none = %v", got)
	}
}

func TestSortIsNewMemory(t *testing.T) {
	l := []api.Item{{Id: 1, Deadline: 1}, {Id: 2, Deadline: 2}}
	rank.Sort(l...)[0].Id = 77
	if l[0].Id != 1 {
		t.Error("shared with the argument")
	}
}

func TestVictimIsTheWorst(t *testing.T) {
	for _, c := range []struct {
		l    []api.Item
		at   int
		want bool
	}{
		{nil, 0, false},
		{[]api.Item{{Level: -5}}, 0, true},
		{[]api.Item{{Level: 3, Deadline: 1}, {Level: 7, Deadline: 4}, {Level: 7, Deadline: 6}}, 2, true},
		{[]api.Item{{Level: 7, Deadline: 6}, {Level: 7, Deadline: 4}, {Level: 3, Deadline: 9}}, 0, true},
		{[]api.Item{{Level: 7, Seq: 1}, {Level: 7, Seq: 2}, {Level: 7, Seq: 2}}, 1, true},
		{[]api.Item{{Level: 7, Id: 1}, {Level: 7, Id: 3}, {Level: 7, Id: 2}}, 1, true},
		{[]api.Item{{Level: 7, From: 1}, {Level: 7, From: 2}}, 0, true},
	} {
		if at, ok := rank.Victim(c.l...); at != c.at || ok != c.want {
			t.Errorf("Victim(%v) = %d, %v", c.l, at, ok)
		}
	}
	l := items()
	at, _ := rank.Victim(l...)
	for _, x := range l {
		if rank.Worse(x, l[at]) {
			t.Errorf("%v is worse than the victim", x)
		}
	}
}

func TestEnds(t *testing.T) {
	x := api.Item{Deadline: 9, Since: 2, Budget: 3}
	for now, want := range map[int]int{-1: 0, 0: 0, 2: 0, 5: 0, 6: api.Spent, 8: api.Spent, 9: api.Expired, 10: api.Expired, api.MaxInt: api.Expired} {
		if got := rank.Ends(x, now); got != want {
			t.Errorf("at %d: %d", now, got)
		}
	}
	for _, c := range []struct {
		x         api.Item
		now, want int
	}{
		{api.Item{Deadline: -5, Budget: 9}, -6, 0}, {api.Item{Deadline: -5, Budget: 9}, -5, api.Expired},
		{api.Item{Deadline: 0, Budget: 9}, -1, 0}, {api.Item{Deadline: 5}, 0, 0}, {api.Item{Deadline: 5}, 1, api.Spent},
		{api.Item{Deadline: 5, Budget: -1}, 0, api.Spent}, {api.Item{Deadline: 50, Since: 20, Budget: 0}, 10, 0},
		{api.Item{Deadline: api.MaxInt, Since: api.MinInt, Budget: api.MaxTicks}, api.MaxInt - 1, 0},
		{api.Item{Deadline: api.MaxInt, Since: -7, Budget: 3}, 3, 0}, {api.Item{Deadline: api.MaxInt, Since: -7, Budget: 3}, 4, api.Spent},
	} {
		if got := rank.Ends(c.x, c.now); got != c.want {
			t.Errorf("Ends(%v, %d) = %d", c.x, c.now, got)
		}
	}
}

func TestWhatIsOverStaysOver(t *testing.T) {
	for _, x := range []api.Item{{Deadline: 9, Since: 2, Budget: 3}, {Deadline: 4, Since: 0, Budget: 9}} {
		over := false
		for now := 0; now < 20; now++ {
			ends := rank.Ends(x, now) != 0
			if over && !ends {
				t.Errorf("%v goes on again at %d", x, now)
			}
			if !ends && now-x.Since > x.Budget {
				t.Errorf("%v waits too long at %d", x, now)
			}
			over = ends
		}
	}
}
