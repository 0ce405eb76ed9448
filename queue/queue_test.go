package queue_test

import (
	"slices"
	"testing"

	"lockkeeper/api"
	"lockkeeper/queue"
	"lockkeeper/rank"
)

func empty(t *testing.T, most int) *queue.Queue {
	t.Helper()
	q, err := queue.New(most)
	if q == nil || err != api.OK {
		t.Fatalf("New(%d): %v", most, err)
	}
	return q
}

func TestNewExaminesTheRoom(t *testing.T) {
	for _, most := range []int{1, 2, 64} {
		if q := empty(t, most); q.Room() != most || len(q.All()) != 0 {
			t.Errorf("New(%d): room for %d", most, q.Room())
		}
	}
	for _, most := range []int{0, -1, 65, api.MaxInt, api.MinInt} {
		if q, err := queue.New(most); q != nil || err != api.ErrArg {
			t.Errorf("New(%d) = %v, %v", most, q, err)
		}
	}
}

func TestTheLeastUrgentLeaves(t *testing.T) {
	q := empty(t, 1)
	if v, ok, err := q.Add(api.Item{Id: 1, Level: 5}); v != (api.Item{}) || ok || err != api.OK {
		t.Errorf("first: %v, %v, %v", v, ok, err)
	}
	if v, ok, err := q.Add(api.Item{Id: 2, Level: 3}); v != (api.Item{Id: 1, Level: 5}) || !ok || err != api.OK {
		t.Errorf("more urgent: %v, %v, %v", v, ok, err)
	}
	if v, ok, err := q.Add(api.Item{Id: 3, Level: 4}); v != (api.Item{Id: 3, Level: 4}) || !ok || err != api.OK {
		t.Errorf("less urgent: %v, %v, %v", v, ok, err)
	}
	if v, ok, err := q.Add(api.Item{Id: 2, Level: 0}); v != (api.Item{}) || ok || err != api.ErrTwice {
		t.Errorf("twice: %v, %v, %v", v, ok, err)
	}
	if all := q.All(); !slices.Equal(all, []api.Item{{Id: 2, Level: 3}}) {
		t.Errorf("all: %v", all)
	}
}

func TestAgainstAPlainList(t *testing.T) {
	for _, most := range []int{1, 3, 64} {
		q := empty(t, most)
		var l []api.Item
		n := uint32(most)
		next := func(k int) int {
			n = n*1664525 + 1013904223
			return int(n>>16) % k
		}
		for step := 0; step < 3000; step++ {
			x := api.Item{Id: next(3*most + 2), Level: next(4), Deadline: next(6), Seq: next(3)}
			v, ok, err := q.Add(x)
			switch {
			case slices.ContainsFunc(l, func(y api.Item) bool { return y.Id == x.Id }):
				if v != (api.Item{}) || ok || err != api.ErrTwice {
					t.Fatalf("step %d: %v, %v, %v", step, v, ok, err)
				}
			case len(l) < most:
				if v != (api.Item{}) || ok || err != api.OK {
					t.Fatalf("step %d: %v, %v, %v", step, v, ok, err)
				}
				l = rank.Sort(append(l, x)...)
			default:
				all := append(slices.Clone(l), x)
				at, _ := rank.Victim(all...)
				if v != all[at] || !ok || err != api.OK {
					t.Fatalf("step %d: %v, %v, %v, want %v", step, v, ok, err, all[at])
				}
				l = rank.Sort(slices.Delete(all, at, at+1)...)
			}
			if next(10) == 0 {
				y, ok := q.Next()
				if ok != (len(l) > 0) || ok && y != l[0] {
					t.Fatalf("step %d: Next = %v, %v", step, y, ok)
				}
				if ok {
					l = l[1:]
				}
			}
			if !slices.Equal(q.All(), l) || q.Room() != most-len(l) {
				t.Fatalf("step %d: %v, want %v", step, q.All(), l)
			}
		}
	}
}

func TestSweepTakesWhatIsOver(t *testing.T) {
	q := empty(t, 8)
	l := []api.Item{
		{Id: 1, Deadline: 9, Since: 0, Budget: 9}, {Id: 2, Deadline: 5, Since: 0, Budget: 9}, {Id: 3, Deadline: 8, Since: 1, Budget: 3},
		{Id: 4, Deadline: 6, Since: 2, Budget: 3}, {Id: 5, Deadline: 3, Since: 0, Budget: 0},
	}
	for _, x := range l {
		q.Add(x)
	}
	swept := q.Sweep(5)
	if !slices.Equal(swept, []api.Item{l[4], l[1], l[2]}) {
		t.Errorf("swept: %v", swept)
	}
	if all := q.All(); !slices.Equal(all, []api.Item{l[3], l[0]}) || q.Room() != 6 {
		t.Errorf("left: %v", all)
	}
	if swept := q.Sweep(5); len(swept) != 0 {
		t.Errorf("swept again: %v", swept)
	}
}

func TestNextTakeHasAndClear(t *testing.T) {
	q := empty(t, 3)
	for id, deadline := range map[int]int{1: 7, 2: 3, 3: 5} {
		q.Add(api.Item{Id: id, Deadline: deadline})
	}
	if !q.Has(1) || !q.Has(2) || q.Has(4) || q.Room() != 0 {
		t.Error("Has")
	}
	if x, ok := q.Next(); x != (api.Item{Id: 2, Deadline: 3}) || !ok || q.Has(2) {
		t.Errorf("Next = %v, %v", x, ok)
	}
	if x, ok := q.Take(1); x != (api.Item{Id: 1, Deadline: 7}) || !ok || q.Has(1) {
		t.Errorf("Take = %v, %v", x, ok)
	}
	if x, ok := q.Take(1); x != (api.Item{}) || ok {
		t.Errorf("Take again = %v, %v", x, ok)
	}
	q.Clear()
	if x, ok := q.Next(); x != (api.Item{}) || ok || q.Has(3) || q.Room() != 3 {
		t.Errorf("behind Clear: %v, %v", x, ok)
	}
}

func TestAnswersAreNewMemory(t *testing.T) {
	q := empty(t, 2)
	q.Add(api.Item{Id: 1})
	q.All()[0].Id = 77
	if !q.Has(1) || q.Has(77) || q.All()[0].Id != 1 {
		t.Errorf("all: %v", q.All())
	}
}

func TestNilAndZero(t *testing.T) {
	for name, q := range map[string]*queue.Queue{"nil": nil, "zero": {}} {
		x := api.Item{Id: 5, Level: 2}
		if v, ok, err := q.Add(x); v != x || !ok || err != api.OK {
			t.Errorf("%s: Add = %v, %v, %v", name, v, ok, err)
		}
		_, next := q.Next()
		_, taken := q.Take(5)
		q.Clear()
		if next || taken || q.Has(5) || q.Room() != 0 || len(q.All()) != 0 || len(q.Sweep(api.MaxInt)) != 0 {
			t.Errorf("%s has items", name)
		}
	}
}
