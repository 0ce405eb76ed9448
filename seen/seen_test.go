package seen_test

import (
	"slices"
	"testing"

	"lockkeeper/api"
	"lockkeeper/seen"
)

func made(t *testing.T, most int) *seen.Seen {
	t.Helper()
	s, err := seen.New(most)
	if s == nil || err != api.OK {
		t.Fatalf("New(%d): %v", most, err)
	}
	return s
}

func TestNewExaminesTheRoom(t *testing.T) {
	for _, most := range []int{0, 1, 255, 256} {
		if s := made(t, most); s.Len() != 0 || len(s.All()) != 0 {
			t.Errorf("New(%d) has numbers", most)
		}
	}
	for _, most := range []int{-1, 257, api.MinInt, api.MaxInt} {
		if s, err := seen.New(most); s != nil || err != api.ErrArg {
			t.Errorf("New(%d) = %v, %v", most, s, err)
		}
	}
}

func TestTheOldestLeaves(t *testing.T) {
	s := made(t, 2)
	for i, want := range []bool{true, true, false, true, true} {
		if got := s.Note([]int{5, 6, 5, 7, 5}[i]); got != want {
			t.Errorf("note %d: %v", i, got)
		}
	}
	if !slices.Equal(s.All(), []int{7, 5}) || s.Has(6) || !s.Has(7) || !s.Has(5) || s.Len() != 2 {
		t.Errorf("all: %v", s.All())
	}
}

// slow keeps a plain list.
type slow struct {
	most int
	l    []int
}

func (s *slow) note(id int) bool {
	if slices.Contains(s.l, id) {
		return false
	}
	s.l = append(s.l, id)
	if len(s.l) > s.most {
		s.l = s.l[1:]
	}
	return true
}

func TestAgainstAPlainList(t *testing.T) {
	for _, most := range []int{0, 1, 2, 3, 7, 256} {
		s, other := made(t, most), slow{most: most}
		n := uint32(1)
		for i := 0; i < 3000; i++ {
			n = n*1664525 + 1013904223
			id := int(n>>16)%(2*most+3) - 1
			if i == 1500 {
				s.Clear()
				other.l = nil
			}
			if s.Has(id) != slices.Contains(other.l, id) {
				t.Fatalf("room %d, step %d: Has(%d) = %v", most, i, id, s.Has(id))
			}
			if got, want := s.Note(id), other.note(id); got != want {
				t.Fatalf("room %d, step %d: Note(%d) = %v", most, i, id, got)
			}
			if !slices.Equal(s.All(), other.l) || s.Len() != len(other.l) {
				t.Fatalf("room %d, step %d: %v, want %v", most, i, s.All(), other.l)
			}
		}
	}
}

func TestClearLetsGoOfAll(t *testing.T) {
	s := made(t, 3)
	for _, id := range []int{1, 2, 3, 4} {
		s.Note(id)
	}
	s.Clear()
	if s.Len() != 0 || len(s.All()) != 0 || s.Has(2) || s.Has(4) {
		t.Errorf("all: %v", s.All())
	}
	if !s.Note(4) || !s.Note(9) || !slices.Equal(s.All(), []int{4, 9}) {
		t.Errorf("behind Clear: %v", s.All())
	}
}

func TestAnswersAreNewMemory(t *testing.T) {
	s := made(t, 3)
	s.Note(1)
	s.Note(2)
	s.All()[0] = 77
	if !slices.Equal(s.All(), []int{1, 2}) || s.Has(77) {
		t.Errorf("all: %v", s.All())
	}
}

func TestNilZeroAndNoRoom(t *testing.T) {
	for name, s := range map[string]*seen.Seen{"nil": nil, "zero": {}, "no room": made(t, 0)} {
		for i := 0; i < 2; i++ {
			if !s.Note(5) || s.Has(5) || s.Len() != 0 || len(s.All()) != 0 {
				t.Errorf("%s keeps a number", name)
			}
			s.Clear()
		}
	}
}
