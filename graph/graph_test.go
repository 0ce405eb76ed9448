package graph_test

import (
	"slices"
	"testing"

	"lockkeeper/api"
	"lockkeeper/graph"
)

// services are as many as there are lists of whom they call.
func services(calls ...[]int) []api.Service {
	l := make([]api.Service, len(calls))
	for i, to := range calls {
		for _, n := range to {
			l[i].Calls = append(l[i].Calls, api.Call{To: n})
		}
	}
	return l
}

func TestCheckAndOrder(t *testing.T) {
	for _, c := range []struct {
		l    []api.Service
		want []int
		err  api.Errno
	}{
		{nil, nil, api.OK}, {services(nil), []int{0}, api.OK}, {services([]int{1, 2}, []int{2}, nil), []int{0, 1, 2}, api.OK},
		{services(nil, nil, nil), []int{0, 1, 2}, api.OK}, {services(nil, []int{0}, []int{1}), []int{2, 1, 0}, api.OK},
		{services([]int{3}, nil, []int{1}, nil), []int{0, 2, 1, 3}, api.OK}, {services(nil, nil, nil, []int{1}), []int{0, 2, 3, 1}, api.OK},
		{services([]int{1, 1}, nil), []int{0, 1}, api.OK}, {services([]int{5, -1, api.MaxInt, api.MinInt}, nil), []int{0, 1}, api.OK},
		{services([]int{1}, []int{0}), nil, api.ErrLoop}, {services([]int{0}), nil, api.ErrLoop}, {services(nil, []int{2}, []int{3}, []int{1}), nil, api.ErrLoop},
		{services([]int{1}, []int{2}, []int{1}), nil, api.ErrLoop},
	} {
		if err := graph.Check(c.l...); err != c.err {
			t.Errorf("Check(%v): %v", c.l, err)
		}
		if got, err := graph.Order(c.l...); !slices.Equal(got, c.want) || err != c.err {
			t.Errorf("Order(%v) = %v, %v", c.l, got, err)
		}
	}
}

func TestDepth(t *testing.T) {
	l := services([]int{1, 2}, []int{2, 7}, []int{4}, nil, nil)
	for from, want := range []int{3, 2, 1, 0, 0} {
		if got, err := graph.Depth(from, l...); got != want || err != api.OK {
			t.Errorf("Depth(%d) = %d, %v", from, got, err)
		}
	}
	for _, from := range []int{-1, 5, api.MinInt, api.MaxInt} {
		if got, err := graph.Depth(from, l...); got != 0 || err != api.ErrNone {
			t.Errorf("Depth(%d) = %d, %v", from, got, err)
		}
	}
	loop := services(nil, []int{2}, []int{1})
	if got, err := graph.Depth(0, loop...); got != 0 || err != api.ErrLoop {
		t.Errorf("a cycle elsewhere: %d, %v", got, err)
	}
	if _, err := graph.Depth(9, loop...); err != api.ErrNone {
		t.Errorf("no such service, and a cycle: %v", err)
	}
}

func TestReachAndCallers(t *testing.T) {
	l := services([]int{4, 1}, []int{2, 9}, nil, []int{2, 2, -1}, []int{2})
	for from, want := range [][]int{{1, 2, 4}, {2}, nil, {2}, {2}} {
		if got := graph.Reach(from, l...); !slices.Equal(got, want) {
			t.Errorf("Reach(%d) = %v", from, got)
		}
	}
	for to, want := range [][]int{nil, {0}, {1, 3, 4}, nil, {0}} {
		if got := graph.Callers(to, l...); !slices.Equal(got, want) {
			t.Errorf("Callers(%d) = %v", to, got)
		}
	}
	for _, n := range []int{-1, 5, 9, api.MinInt, api.MaxInt} {
		if len(graph.Reach(n, l...)) != 0 || len(graph.Callers(n, l...)) != 0 {
			t.Errorf("of %d, which is none", n)
		}
	}
	loop := services([]int{1}, []int{2}, []int{1}, []int{3})
	for from, want := range [][]int{{1, 2}, {1, 2}, {1, 2}, {3}} {
		if got := graph.Reach(from, loop...); !slices.Equal(got, want) {
			t.Errorf("round: Reach(%d) = %v", from, got)
		}
	}
}

func TestManyServices(t *testing.T) {
	const most = 1500
	calls := make([][]int, most)
	var back []int
	for i := range calls {
		if i > 0 {
			calls[i] = []int{i - 1}
		}
		back = append(back, most-1-i)
	}
	l := services(calls...)
	if got, err := graph.Order(l...); !slices.Equal(got, back) || err != api.OK {
		t.Errorf("a long row: %v", err)
	}
	if got, err := graph.Depth(most-1, l...); got != most-1 || err != api.OK {
		t.Errorf("a long row: depth %d, %v", got, err)
	}
	if got := graph.Reach(most-1, l...); len(got) != most-1 {
		t.Errorf("a long row: %d reached", len(got))
	}
}

func TestOrderDepthAndReachAgree(t *testing.T) {
	n := uint32(23)
	next := func(k int) int {
		n = n*1664525 + 1013904223
		return int(n>>16) % k
	}
	for round := 0; round < 300; round++ {
		calls := make([][]int, 1+next(7))
		for i := range calls {
			for range next(4) {
				calls[i] = append(calls[i], next(len(calls)+1))
			}
		}
		l := services(calls...)
		cycle := false
		for s := range l {
			reach := graph.Reach(s, l...)
			cycle = cycle || slices.Contains(reach, s)
			for _, to := range calls[s] {
				if to < len(l) && (!slices.Contains(reach, to) || !slices.Contains(graph.Callers(to, l...), s)) {
					t.Fatalf("%v: %d calls %d", calls, s, to)
				}
			}
			for _, to := range reach {
				for _, more := range graph.Reach(to, l...) {
					if !slices.Contains(reach, more) {
						t.Fatalf("%v: %d reaches %d, but not %d", calls, s, to, more)
					}
				}
			}
		}
		order, err := graph.Order(l...)
		if cycle != (err == api.ErrLoop) || graph.Check(l...) != err {
			t.Fatalf("%v: %v", calls, err)
		}
		for i, s := range order {
			// Nothing else that was free at this place is less.
			for other := 0; other < s; other++ {
				free := !slices.Contains(order[:i], other)
				for _, caller := range graph.Callers(other, l...) {
					free = free && slices.Contains(order[:i], caller)
				}
				if free {
					t.Fatalf("%v: %d stands where %d is free", calls, s, other)
				}
			}
			depth, _ := graph.Depth(s, l...)
			for _, to := range calls[s] {
				if to < len(l) {
					if d, _ := graph.Depth(to, l...); d >= depth || slices.Index(order, to) < i {
						t.Fatalf("%v: %d and %d", calls, s, to)
					}
				}
			}
		}
	}
}
