package bag_test

import (
	"slices"
	"strconv"
	"testing"

	"lockkeeper/api"
	"lockkeeper/bag"
)

func made(t *testing.T, most int, texts ...string) *bag.Bag {
	t.Helper()
	b, err := bag.New(most)
	if b == nil || err != api.OK {
		t.Fatalf("New(%d): %v", most, err)
	}
	for _, s := range texts {
		if !b.Put(s) {
			t.Fatalf("Put(%q)", s)
		}
	}
	return b
}

func expect(t *testing.T, b *bag.Bag, want ...string) {
	t.Helper()
	if got := b.All(); !slices.Equal(got, want) || b.Len() != len(want) {
		t.Errorf("All = %q, %d; want %q", got, b.Len(), want)
	}
	for place := -1; place <= len(want); place++ {
		s, ok := b.At(place)
		if ok != (place >= 0 && place < len(want)) || ok && s != want[place] || !ok && s != "" {
			t.Errorf("At(%d) = %q, %v", place, s, ok)
		}
	}
}

func TestNewExaminesTheRoom(t *testing.T) {
	for _, most := range []int{0, 1, 64} {
		b := made(t, most)
		expect(t, b)
		for range most {
			if !b.Put("x") {
				t.Errorf("room for %d, but not for %d", most, b.Len())
			}
		}
		if b.Put("x") || b.Len() != most {
			t.Errorf("room for %d: %d", most, b.Len())
		}
	}
	for _, most := range []int{-1, 65, api.MinInt, api.MaxInt} {
		if b, err := bag.New(most); b != nil || err != api.ErrArg {
			t.Errorf("New(%d) = %v, %v", most, b, err)
		}
	}
}

func TestExample(t *testing.T) {
	b := made(t, 4, "a", "b")
	if err := b.Twin(0); err != api.OK {
		t.Errorf("Twin: %v", err)
	}
	expect(t, b, "a", "b", "a")
	if s, ok := b.Take(1); s != "b" || !ok {
		t.Errorf("Take = %q, %v", s, ok)
	}
	expect(t, b, "a", "a")
}

func TestTake(t *testing.T) {
	b := made(t, 4, "a", "", "c", "d")
	for _, place := range []int{-1, 4, api.MinInt, api.MaxInt} {
		if s, ok := b.Take(place); s != "" || ok {
			t.Errorf("Take(%d) = %q, %v", place, s, ok)
		}
	}
	all := b.All()
	if s, ok := b.Take(1); s != "" || !ok {
		t.Errorf("an empty text: %q, %v", s, ok)
	}
	expect(t, b, "a", "c", "d")
	b.Take(0)
	expect(t, b, "c", "d")
	b.Put("e")
	b.Take(2)
	expect(t, b, "c", "d")
	b.Take(0)
	b.Take(0)
	expect(t, b)
	if !slices.Equal(all, []string{"a", "", "c", "d"}) {
		t.Errorf("an answer was changed: %q", all)
	}
}

func TestTwin(t *testing.T) {
	b := made(t, 3, "a", "b")
	for _, place := range []int{-1, 2, api.MinInt, api.MaxInt} {
		if err := b.Twin(place); err != api.ErrNone {
			t.Errorf("Twin(%d): %v", place, err)
		}
	}
	if err := b.Twin(1); err != api.OK {
		t.Errorf("Twin(1): %v", err)
	}
	if err := b.Twin(1); err != api.ErrFull {
		t.Errorf("no room: %v", err)
	}
	// That there is no text comes ahead of that there is no room.
	if err := b.Twin(3); err != api.ErrNone {
		t.Errorf("no text and no room: %v", err)
	}
	expect(t, b, "a", "b", "b")
}

func TestAgainstAPlainList(t *testing.T) {
	seed := uint32(53)
	next := func(k int) int {
		seed = seed*1664525 + 1013904223
		return int(seed>>16) % k
	}
	b := made(t, 7)
	var l []string
	for step := 0; step < 3000; step++ {
		place := next(8)
		switch next(3) {
		case 0:
			if b.Put(strconv.Itoa(step)) {
				l = append(l, strconv.Itoa(step))
			}
		case 1:
			if _, ok := b.Take(place); ok {
				l = slices.Delete(slices.Clone(l), place, place+1)
			}
		case 2:
			if b.Twin(place) == api.OK {
				l = append(l, l[place])
			}
		}
		if !slices.Equal(b.All(), l) || len(l) > 7 {
			t.Fatalf("step %d: %q, want %q", step, b.All(), l)
		}
	}
	b.All()[0] = "changed"
	expect(t, b, l...)
}

func TestNilAndZero(t *testing.T) {
	for name, b := range map[string]*bag.Bag{"nil": nil, "zero": {}} {
		_, taken := b.Take(0)
		if b.Put("a") || taken || b.Twin(0) != api.ErrNone {
			t.Errorf("%s has texts", name)
		}
		expect(t, b)
	}
}
