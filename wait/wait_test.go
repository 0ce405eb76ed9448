package wait_test

import (
	"slices"
	"testing"

	"lockkeeper/wait"
)

func TestExample(t *testing.T) {
	w := wait.New()
	if !w.Add(5, 1) || !w.Add(3, 1) || w.Add(5, 2) || w.Add(5, 1) {
		t.Error("Add")
	}
	if got := w.Of(1); !slices.Equal(got, []int{3, 5}) {
		t.Errorf("Of(1) = %v", got)
	}
	if got := w.Of(2); len(got) != 0 {
		t.Errorf("Of(2) = %v", got)
	}
	if job, ok := w.Job(5); job != 1 || !ok || w.Len() != 2 {
		t.Errorf("Job(5) = %d, %v", job, ok)
	}
	if job, ok := w.Job(4); job != 0 || ok {
		t.Errorf("Job(4) = %d, %v", job, ok)
	}
	if job, ok := w.Take(5); job != 1 || !ok || w.Len() != 1 {
		t.Errorf("Take(5) = %d, %v", job, ok)
	}
	if job, ok := w.Take(5); job != 0 || ok {
		t.Errorf("Take(5) again = %d, %v", job, ok)
	}
	if !w.Add(5, 2) {
		t.Error("a call that is free again")
	}
}

func TestDropAndClear(t *testing.T) {
	w := wait.New()
	for call, job := range map[int]int{9: 1, -4: 1, 7: 1, 2: 2, 0: 0} {
		w.Add(call, job)
	}
	if got := w.Drop(1); !slices.Equal(got, []int{-4, 7, 9}) {
		t.Errorf("Drop(1) = %v", got)
	}
	if got := w.Drop(1); len(got) != 0 {
		t.Errorf("Drop(1) again = %v", got)
	}
	if job, ok := w.Job(2); job != 2 || !ok || w.Len() != 2 || len(w.Of(1)) != 0 {
		t.Errorf("others: %d, %v", job, ok)
	}
	if job, ok := w.Job(0); job != 0 || !ok {
		t.Errorf("job 0: %d, %v", job, ok)
	}
	if _, ok := w.Job(7); ok || !w.Add(7, 3) {
		t.Error("a call of the dropped job")
	}
	w.Clear()
	if w.Len() != 0 || len(w.Of(2)) != 0 || len(w.Of(3)) != 0 || !w.Add(2, 9) || !slices.Equal(w.Of(9), []int{2}) {
		t.Error("Clear")
	}
}

func TestAgainstAPlainList(t *testing.T) {
	type pair struct{ call, job int }
	w := wait.New()
	var l []pair
	n := uint32(41)
	next := func(k int) int {
		n = n*1664525 + 1013904223
		return int(n>>16) % k
	}
	for step := 0; step < 5000; step++ {
		call, job := next(30), next(6)
		at := slices.IndexFunc(l, func(p pair) bool { return p.call == call })
		switch next(5) {
		case 0, 1, 2:
			if w.Add(call, job) != (at < 0) {
				t.Fatalf("step %d: Add(%d, %d)", step, call, job)
			}
			if at < 0 {
				l = append(l, pair{call, job})
			}
		case 3:
			got, ok := w.Take(call)
			if ok != (at >= 0) || ok && got != l[at].job {
				t.Fatalf("step %d: Take(%d) = %d, %v", step, call, got, ok)
			}
			if ok {
				l = slices.Delete(l, at, at+1)
			}
		case 4:
			w.Drop(job)
			l = slices.DeleteFunc(l, func(p pair) bool { return p.job == job })
		}
		if w.Len() != len(l) {
			t.Fatalf("step %d: %d, want %d", step, w.Len(), len(l))
		}
		for job := 0; job < 6; job++ {
			var want []int
			for _, p := range l {
				if p.job == job {
					want = append(want, p.call)
				}
			}
			slices.Sort(want)
			if got := w.Of(job); !slices.Equal(got, want) {
				t.Fatalf("step %d: Of(%d) = %v, want %v", step, job, got, want)
			}
		}
	}
}

func TestNilAndZero(t *testing.T) {
	for name, w := range map[string]*wait.Waits{"nil": nil, "zero": {}} {
		w.Clear()
		_, job := w.Job(1)
		_, taken := w.Take(1)
		if w.Add(1, 2) || job || taken || w.Len() != 0 || len(w.Of(2)) != 0 || len(w.Drop(2)) != 0 {
			t.Errorf("%s waits", name)
		}
	}
}
