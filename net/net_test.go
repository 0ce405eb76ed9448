package net_test

import (
	"slices"
	"strconv"
	"testing"

	"lockkeeper/api"
	"lockkeeper/net"
)

func made(t *testing.T, services int) *net.Net {
	t.Helper()
	n, err := net.New(services)
	if n == nil || err != api.OK {
		t.Fatalf("New(%d): %v", services, err)
	}
	return n
}

func TestNewLaysAllLinks(t *testing.T) {
	for services := 1; services <= 8; services++ {
		n := made(t, services)
		links := 0
		for from := -3; from <= 9; from++ {
			for to := -3; to <= 9; to++ {
				want := from >= -1 && from < services && to >= -1 && to < services && from != to
				if n.Has(from, to) != want {
					t.Errorf("%d services: Has(%d, %d) = %v", services, from, to, n.Has(from, to))
				}
				if want {
					links++
				}
			}
		}
		if links != services*(services+1) || n.Total() != 0 || len(n.Links()) != 0 {
			t.Errorf("%d services: %d links", services, links)
		}
	}
	for _, services := range []int{0, -1, 9, api.MinInt, api.MaxInt} {
		if n, err := net.New(services); n != nil || err != api.ErrArg {
			t.Errorf("New(%d) = %v, %v", services, n, err)
		}
	}
}

func TestLinksDoNotAffectEachOther(t *testing.T) {
	n := made(t, 3)
	want := map[[2]int][]string{}
	seed := uint32(59)
	next := func(k int) int {
		seed = seed*1664525 + 1013904223
		return int(seed>>16) % k
	}
	for step := 0; step < 3000; step++ {
		link := [2]int{next(6) - 2, next(6) - 2}
		from, to, place := link[0], link[1], next(4)
		l, has := want[link], n.Has(from, to)
		switch next(3) {
		case 0:
			if err := n.Put(from, to, strconv.Itoa(step)); has != (err == api.OK) || !has && err != api.ErrNone {
				t.Fatalf("step %d: Put(%v): %v", step, link, err)
			} else if has {
				want[link] = append(l, strconv.Itoa(step))
			}
		case 1:
			s, err := n.Take(from, to, place)
			if place < len(l) {
				if s != l[place] || err != api.OK {
					t.Fatalf("step %d: Take(%v, %d) = %q, %v", step, link, place, s, err)
				}
				want[link] = slices.Delete(slices.Clone(l), place, place+1)
			} else if s != "" || err != api.ErrNone {
				t.Fatalf("step %d: Take(%v, %d) = %q, %v", step, link, place, s, err)
			}
		case 2:
			err := n.Twin(from, to, place)
			if place < len(l) && len(l) < 64 {
				if err != api.OK {
					t.Fatalf("step %d: Twin(%v, %d): %v", step, link, place, err)
				}
				want[link] = append(l, l[place])
			} else if place >= len(l) && err != api.ErrNone {
				t.Fatalf("step %d: Twin(%v, %d): %v", step, link, place, err)
			}
		}
		total := 0
		var links [][2]int
		for from := -2; from <= 4; from++ {
			for to := -2; to <= 4; to++ {
				l := want[[2]int{from, to}]
				total += len(l)
				if len(l) > 0 {
					links = append(links, [2]int{from, to})
				}
				if n.Len(from, to) != len(l) {
					t.Fatalf("step %d: Len(%d, %d) = %d, want %d", step, from, to, n.Len(from, to), len(l))
				}
				for place, s := range l {
					if got, err := n.At(from, to, place); got != s || err != api.OK {
						t.Fatalf("step %d: At(%d, %d, %d) = %q, %v", step, from, to, place, got, err)
					}
				}
			}
		}
		if n.Total() != total || !slices.Equal(n.Links(), links) {
			t.Fatalf("step %d: %d on %v, want %d on %v", step, n.Total(), n.Links(), total, links)
		}
	}
}

func TestALinkHasRoomForSoMany(t *testing.T) {
	n := made(t, 2)
	for i := range 64 {
		if err := n.Put(0, -1, strconv.Itoa(i)); err != api.OK {
			t.Fatalf("Put %d: %v", i, err)
		}
	}
	if err := n.Put(0, -1, "x"); err != api.ErrFull {
		t.Errorf("Put: %v", err)
	}
	if err := n.Twin(0, -1, 3); err != api.ErrFull {
		t.Errorf("Twin: %v", err)
	}
	if err := n.Twin(0, -1, 64); err != api.ErrNone {
		t.Errorf("Twin of none: %v", err)
	}
	if err := n.Put(-1, 0, "x"); err != api.OK {
		t.Errorf("the way back: %v", err)
	}
	if n.Total() != 65 || n.Len(0, -1) != 64 || !slices.Equal(n.Links(), [][2]int{{-1, 0}, {0, -1}}) {
		t.Errorf("%d on %v", n.Total(), n.Links())
	}
}

func TestWhereThereIsNothing(t *testing.T) {
	n := made(t, 2)
	n.Put(0, 1, "a")
	for _, c := range [][3]int{{0, 0, 0}, {-1, -1, 0}, {0, 2, 0}, {-2, 0, 0}, {0, 1, 1}, {0, 1, -1}, {1, 0, 0}, {api.MaxInt, api.MinInt, 0}, {0, 1, api.MaxInt}} {
		if s, err := n.At(c[0], c[1], c[2]); s != "" || err != api.ErrNone {
			t.Errorf("At(%v) = %q, %v", c, s, err)
		}
		if s, err := n.Take(c[0], c[1], c[2]); s != "" || err != api.ErrNone {
			t.Errorf("Take(%v) = %q, %v", c, s, err)
		}
		if err := n.Twin(c[0], c[1], c[2]); err != api.ErrNone {
			t.Errorf("Twin(%v): %v", c, err)
		}
	}
	if err := n.Put(1, 1, "x"); err != api.ErrNone {
		t.Errorf("Put: %v", err)
	}
	n.Links()[0][0] = 1
	if !slices.Equal(n.Links(), [][2]int{{0, 1}}) {
		t.Errorf("Links are shared: %v", n.Links())
	}
}

func TestNilAndZero(t *testing.T) {
	for name, n := range map[string]*net.Net{"nil": nil, "zero": {}} {
		_, at := n.At(-1, 0, 0)
		_, taken := n.Take(-1, 0, 0)
		if n.Has(-1, 0) || n.Has(0, -1) || n.Has(-1, -1) || n.Put(-1, 0, "x") != api.ErrNone || at != api.ErrNone || taken != api.ErrNone ||
			n.Twin(-1, 0, 0) != api.ErrNone || n.Len(-1, 0) != 0 || n.Total() != 0 || len(n.Links()) != 0 {
			t.Errorf("%s has links", name)
		}
	}
}
