package slot_test

import (
	"slices"
	"testing"

	"lockkeeper/api"
	"lockkeeper/slot"
)

func made(t *testing.T, workers int) *slot.Slots {
	t.Helper()
	s, err := slot.New(workers)
	if s == nil || err != api.OK {
		t.Fatalf("New(%d): %v", workers, err)
	}
	return s
}

func put(t *testing.T, s *slot.Slots, x api.Item, place int, want api.Errno) {
	t.Helper()
	if got, err := s.Put(x); got != place || err != want {
		t.Errorf("Put(%v) = %d, %v; want %d, %v", x, got, err, place, want)
	}
}

func TestNewExaminesWorkers(t *testing.T) {
	for _, n := range []int{1, 2, 16} {
		if s := made(t, n); s.Free() != n || len(s.All()) != 0 {
			t.Errorf("New(%d): %d free", n, s.Free())
		}
	}
	for _, n := range []int{0, -1, 17, api.MinInt, api.MaxInt} {
		if s, err := slot.New(n); s != nil || err != api.ErrArg {
			t.Errorf("New(%d) = %v, %v", n, s, err)
		}
	}
}

func TestTheLeastFreePlaceIsTaken(t *testing.T) {
	s := made(t, 2)
	put(t, s, api.Item{Id: 7, Level: 1}, 0, api.OK)
	put(t, s, api.Item{Id: 8, Level: 2}, 1, api.OK)
	put(t, s, api.Item{Id: 9}, 0, api.ErrFull)
	put(t, s, api.Item{Id: 8}, 0, api.ErrTwice)
	if s.Free() != 0 {
		t.Errorf("%d free", s.Free())
	}
	if x, ok := s.Take(7); x != (api.Item{Id: 7, Level: 1}) || !ok || s.Free() != 1 {
		t.Errorf("Take(7) = %v, %v", x, ok)
	}
	if x, ok := s.Take(7); x != (api.Item{}) || ok {
		t.Errorf("Take(7) again = %v, %v", x, ok)
	}
	put(t, s, api.Item{Id: 8}, 0, api.ErrTwice)
	put(t, s, api.Item{Id: 9}, 0, api.OK)
	if all := s.All(); !slices.Equal(all, []api.Item{{Id: 9}, {Id: 8, Level: 2}}) {
		t.Errorf("All = %v", all)
	}
}

func TestAtAndPlace(t *testing.T) {
	s := made(t, 3)
	for id := 5; id < 8; id++ {
		s.Put(api.Item{Id: id, Seq: id})
	}
	s.Take(6)
	for place, want := range map[int]int{0: 5, 2: 7} {
		if x, ok := s.At(place); x != (api.Item{Id: want, Seq: want}) || !ok {
			t.Errorf("At(%d) = %v, %v", place, x, ok)
		}
		if got, ok := s.Place(want); got != place || !ok {
			t.Errorf("Place(%d) = %d, %v", want, got, ok)
		}
	}
	for _, place := range []int{-1, 1, 3, 15, 16, api.MinInt, api.MaxInt} {
		if x, ok := s.At(place); x != (api.Item{}) || ok {
			t.Errorf("At(%d) = %v, %v", place, x, ok)
		}
	}
	for _, id := range []int{6, 0, -1} {
		if place, ok := s.Place(id); place != 0 || ok {
			t.Errorf("Place(%d) = %d, %v", id, place, ok)
		}
	}
	s.Clear()
	if s.Free() != 3 || len(s.All()) != 0 {
		t.Errorf("behind Clear: %v", s.All())
	}
	put(t, s, api.Item{Id: 5}, 0, api.OK)
}

func TestLateTakesByPlaces(t *testing.T) {
	s := made(t, 4)
	l := []api.Item{{Id: 4, Deadline: 9}, {Id: 3, Deadline: 5}, {Id: 2, Deadline: 6}, {Id: 1, Deadline: -2}}
	for _, x := range l {
		s.Put(x)
	}
	if got := s.Late(-3); len(got) != 0 {
		t.Errorf("Late(-3) = %v", got)
	}
	if got := s.Late(5); !slices.Equal(got, []api.Item{l[1], l[3]}) {
		t.Errorf("Late(5) = %v", got)
	}
	if got := s.All(); !slices.Equal(got, []api.Item{l[0], l[2]}) || s.Free() != 2 {
		t.Errorf("left: %v", got)
	}
	put(t, s, api.Item{Id: 8}, 1, api.OK)
}

func TestAnswersAreNewMemory(t *testing.T) {
	s := made(t, 2)
	s.Put(api.Item{Id: 1})
	s.All()[0].Id = 77
	if x, _ := s.At(0); x.Id != 1 {
		t.Errorf("At(0) = %v", x)
	}
}

func TestNilAndZeroHaveNoPlaces(t *testing.T) {
	for name, s := range map[string]*slot.Slots{"nil": nil, "zero": {}} {
		if place, err := s.Put(api.Item{Id: 1}); place != 0 || err != api.ErrFull {
			t.Errorf("%s: Put = %d, %v", name, place, err)
		}
		_, taken := s.Take(1)
		_, at := s.At(0)
		_, placed := s.Place(1)
		s.Clear()
		if taken || at || placed || s.Free() != 0 || len(s.All()) != 0 || len(s.Late(api.MaxInt)) != 0 {
			t.Errorf("%s has items", name)
		}
	}
}
