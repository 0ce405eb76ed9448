package pile_test

import (
	"slices"
	"testing"

	"lockkeeper/api"
	"lockkeeper/pile"
	"lockkeeper/rank"
)

func empty(t *testing.T, most int) *pile.Pile {
	t.Helper()
	p, err := pile.New(most)
	if p == nil || err != api.OK {
		t.Fatalf("New(%d): %v", most, err)
	}
	return p
}

func TestNewExaminesTheRoom(t *testing.T) {
	for _, most := range []int{0, 1, 63, 64} {
		if p := empty(t, most); p.Len() != 0 || len(p.All()) != 0 {
			t.Errorf("New(%d) has items", most)
		}
	}
	for _, most := range []int{-1, 65, api.MaxInt, api.MinInt} {
		if p, err := pile.New(most); p != nil || err != api.ErrArg {
			t.Errorf("New(%d) = %v, %v", most, p, err)
		}
	}
}

func TestPushPopPeekTake(t *testing.T) {
	p := empty(t, 3)
	for i, deadline := range []int{7, 3, 5} {
		if err := p.Push(api.Item{Id: i, Deadline: deadline, Level: 9 - i, From: i, Budget: 2, Since: 1, Seq: 4}); err != api.OK {
			t.Fatalf("Push: %v", err)
		}
	}
	if x, ok := p.Peek(); x.Deadline != 3 || !ok || p.Len() != 3 {
		t.Errorf("Peek = %v, %v", x, ok)
	}
	if x, ok := p.Pop(); x != (api.Item{Id: 1, Deadline: 3, Level: 8, From: 1, Budget: 2, Since: 1, Seq: 4}) || !ok || p.Len() != 2 {
		t.Errorf("Pop = %v, %v", x, ok)
	}
	if x, ok := p.Get(2); x.Deadline != 5 || !ok || p.Len() != 2 {
		t.Errorf("Get = %v, %v", x, ok)
	}
	if x, ok := p.Take(2); x.Deadline != 5 || !ok || p.Len() != 1 {
		t.Errorf("Take = %v, %v", x, ok)
	}
	if x, ok := p.Take(2); x != (api.Item{}) || ok {
		t.Errorf("Take again = %v, %v", x, ok)
	}
	if x, ok := p.Get(2); x != (api.Item{}) || ok {
		t.Errorf("Get of what was taken = %v, %v", x, ok)
	}
	if x, ok := p.Pop(); x.Deadline != 7 || !ok {
		t.Errorf("last Pop = %v, %v", x, ok)
	}
	if x, ok := p.Pop(); x != (api.Item{}) || ok {
		t.Errorf("Pop of none = %v, %v", x, ok)
	}
	if x, ok := p.Peek(); x != (api.Item{}) || ok {
		t.Errorf("Peek of none = %v, %v", x, ok)
	}
}

func TestPushRefuses(t *testing.T) {
	p := empty(t, 2)
	p.Push(api.Item{Id: 5, Deadline: 1})
	if err := p.Push(api.Item{Id: 5, Deadline: 2}); err != api.ErrTwice {
		t.Errorf("the same Id: %v", err)
	}
	p.Push(api.Item{Id: 6, Deadline: 2})
	if err := p.Push(api.Item{Id: 7}); err != api.ErrFull {
		t.Errorf("no room: %v", err)
	}
	if err := p.Push(api.Item{Id: 6}); err != api.ErrTwice {
		t.Errorf("the same Id and no room: %v", err)
	}
	if all := p.All(); !slices.Equal(all, []api.Item{{Id: 5, Deadline: 1}, {Id: 6, Deadline: 2}}) {
		t.Errorf("all: %v", all)
	}
	if err := empty(t, 0).Push(api.Item{}); err != api.ErrFull {
		t.Errorf("room for none: %v", err)
	}
}

func TestAgainstAPlainList(t *testing.T) {
	for _, most := range []int{1, 2, 5, 64} {
		p := empty(t, most)
		var l []api.Item
		n := uint32(most)
		next := func(k int) int {
			n = n*1664525 + 1013904223
			return int(n>>16) % k
		}
		for step := 0; step < 4000; step++ {
			switch id := next(2*most + 1); next(4) {
			case 0, 1:
				x := api.Item{Id: id, Deadline: next(9), Seq: next(3), Level: next(5), From: step}
				err := p.Push(x)
				if slices.ContainsFunc(l, func(y api.Item) bool { return y.Id == id }) {
					if err != api.ErrTwice {
						t.Fatalf("step %d: %v", step, err)
					}
				} else if len(l) == most {
					if err != api.ErrFull {
						t.Fatalf("step %d: %v", step, err)
					}
				} else {
					l = rank.Sort(append(l, x)...)
				}
			case 2:
				x, ok := p.Take(id)
				at := slices.IndexFunc(l, func(y api.Item) bool { return y.Id == id })
				if ok != (at >= 0) || ok && x != l[at] {
					t.Fatalf("step %d: Take(%d) = %v, %v", step, id, x, ok)
				}
				if ok {
					l = slices.Delete(l, at, at+1)
				}
			case 3:
				x, ok := p.Pop()
				if ok != (len(l) > 0) || ok && x != l[0] {
					t.Fatalf("step %d: Pop = %v, %v", step, x, ok)
				}
				if ok {
					l = l[1:]
				}
			}
			if !slices.Equal(p.All(), l) || p.Len() != len(l) {
				t.Fatalf("step %d: %v, want %v", step, p.All(), l)
			}
			if x, ok := p.Peek(); ok != (len(l) > 0) || ok && x != l[0] {
				t.Fatalf("step %d: Peek = %v, %v", step, x, ok)
			}
			for _, x := range l {
				if y, ok := p.Get(x.Id); y != x || !ok {
					t.Fatalf("step %d: Get(%d) = %v, %v", step, x.Id, y, ok)
				}
			}
		}
	}
}

func TestClear(t *testing.T) {
	p := empty(t, 4)
	for id := 0; id < 4; id++ {
		p.Push(api.Item{Id: id})
	}
	p.Clear()
	if _, found := p.Get(2); found || p.Len() != 0 || len(p.All()) != 0 {
		t.Errorf("all: %v", p.All())
	}
	for id := 0; id < 4; id++ {
		if err := p.Push(api.Item{Id: id}); err != api.OK {
			t.Errorf("Push behind Clear: %v", err)
		}
	}
}

func TestAnswersAreNewMemory(t *testing.T) {
	p := empty(t, 2)
	p.Push(api.Item{Id: 1})
	p.All()[0].Id = 77
	if x, _ := p.Peek(); x.Id != 1 {
		t.Errorf("first: %v", x)
	}
}

func TestNilAndZero(t *testing.T) {
	for name, p := range map[string]*pile.Pile{"nil": nil, "zero": {}} {
		if err := p.Push(api.Item{Id: 1}); err != api.ErrFull {
			t.Errorf("%s: Push: %v", name, err)
		}
		_, popped := p.Pop()
		_, peeked := p.Peek()
		_, taken := p.Take(1)
		_, got := p.Get(1)
		p.Clear()
		if popped || peeked || taken || got || p.Len() != 0 || len(p.All()) != 0 {
			t.Errorf("%s has items", name)
		}
	}
}
