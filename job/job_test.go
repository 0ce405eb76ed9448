package job_test

import (
	"slices"
	"testing"

	"lockkeeper/api"
	"lockkeeper/job"
)

var item = api.Item{Id: 5, Level: 3, From: -1, Deadline: 9, Budget: 4, Since: 1, Seq: 2}

func waiting(needs ...int) api.Job { return api.Job{Item: item, Phase: api.Waiting, Needs: needs} }

func same(t *testing.T, what string, got, want api.Job) {
	t.Helper()
	if got.Item != want.Item || got.Phase != want.Phase || !slices.Equal(got.Needs, want.Needs) {
		t.Errorf("%s: %v, want %v", what, got, want)
	}
}

func TestNew(t *testing.T) {
	same(t, "New", job.New(item), api.Job{Item: item, Phase: api.Working})
}

func TestDone(t *testing.T) {
	for _, c := range []struct {
		j     api.Job
		needs []int
		want  api.Job
		code  int
		err   api.Errno
	}{
		{job.New(item), nil, api.Job{}, api.Good, api.OK}, {job.New(item), []int{5, 3}, waiting(3, 5), 0, api.OK},
		{job.New(item), []int{5, 3, 5, -1, 3, 5}, waiting(-1, 3, 5), 0, api.OK}, {job.New(item), []int{7}, waiting(7), 0, api.OK},
		{waiting(3), nil, api.Job{}, 0, api.ErrState}, {waiting(3), []int{4}, api.Job{}, 0, api.ErrState}, {api.Job{}, nil, api.Job{}, 0, api.ErrState},
		{api.Job{Item: item, Phase: 3}, []int{1}, api.Job{}, 0, api.ErrState}, {api.Job{Item: item, Phase: -1}, nil, api.Job{}, 0, api.ErrState},
	} {
		got, code, err := job.Done(c.j, c.needs...)
		same(t, "Done", got, c.want)
		if code != c.code || err != c.err {
			t.Errorf("Done(%v, %v): %d, %v", c.j, c.needs, code, err)
		}
	}
	needs := []int{5, 3}
	job.Done(job.New(item), needs...)
	if !slices.Equal(needs, []int{5, 3}) {
		t.Errorf("the argument was changed: %v", needs)
	}
}

func TestBroken(t *testing.T) {
	if code, err := job.Broken(job.New(item)); code != api.Broken || err != api.OK {
		t.Errorf("Working: %d, %v", code, err)
	}
	for _, phase := range []int{0, 2, 3, -1} {
		if code, err := job.Broken(api.Job{Item: item, Phase: phase}); code != 0 || err != api.ErrState {
			t.Errorf("phase %d: %d, %v", phase, code, err)
		}
	}
}

func TestHeard(t *testing.T) {
	working := api.Job{Item: item, Phase: api.Working, Needs: []int{3}}
	for _, c := range []struct {
		j          api.Job
		call, code int
		want       api.Job
		out        int
	}{
		{waiting(3, 5), 5, api.Good, waiting(3), 0}, {waiting(3), 3, api.Refused, api.Job{}, api.Failed}, {waiting(3), 3, api.Good, api.Job{}, api.Good},
		{waiting(3, 5), 3, api.Late, api.Job{}, api.Failed}, {waiting(3, 5), 3, 0, api.Job{}, api.Failed}, {waiting(3, 5), 3, -7, api.Job{}, api.Failed},
		{waiting(3, 5), 4, api.Good, waiting(3, 5), 0}, {waiting(3, 5), 4, api.Refused, waiting(3, 5), 0}, {waiting(), 4, api.Refused, waiting(), 0},
		{working, 3, api.Refused, working, 0}, {working, 3, api.Good, working, 0}, {api.Job{}, 0, api.Good, api.Job{}, 0},
		{api.Job{Phase: 7, Needs: []int{3}}, 3, api.Good, api.Job{Phase: 7, Needs: []int{3}}, 0},
		{waiting(1, 2, 3), 2, api.Good, waiting(1, 3), 0},
	} {
		got, out := job.Heard(c.j, c.call, c.code)
		same(t, "Heard", got, c.want)
		if out != c.out {
			t.Errorf("Heard(%v, %d, %d): %d", c.j, c.call, c.code, out)
		}
	}
}

func TestAnswersAreNewMemory(t *testing.T) {
	j := waiting(3, 5, 7)
	for _, call := range []int{5, 99} {
		got, _ := job.Heard(j, call, api.Good)
		got.Needs[0] = 77
		if !slices.Equal(j.Needs, []int{3, 5, 7}) {
			t.Errorf("Heard of %d shares the needs: %v", call, j.Needs)
		}
	}
}

func TestWhateverTheOrderOfAnswers(t *testing.T) {
	for _, order := range [][]int{{1, 2, 3}, {3, 2, 1}, {2, 3, 1}, {2, 2, 1, 1, 3}} {
		j, out := waiting(1, 2, 3), 0
		for i, call := range order {
			if out != 0 {
				t.Errorf("%v: over ahead of answer %d", order, i)
			}
			j, out = job.Heard(j, call, api.Good)
		}
		if out != api.Good {
			t.Errorf("%v: %d", order, out)
		}
	}
}

func TestEnds(t *testing.T) {
	for now, want := range map[int]int{8: 0, 9: api.Late, 10: api.Late, api.MaxInt: api.Late, api.MinInt: 0} {
		if got := job.Ends(waiting(1), now); got != want {
			t.Errorf("at %d: %d", now, got)
		}
	}
}

func TestSame(t *testing.T) {
	other := item
	other.Seq++
	for _, c := range []struct {
		a, b api.Job
		want bool
	}{
		{waiting(1, 2), waiting(1, 2), true}, {waiting(1, 2), waiting(2, 1), false}, {waiting(1, 2), waiting(1), false}, {waiting(), api.Job{Item: item, Phase: 2, Needs: []int{}}, true},
		{waiting(), job.New(item), false}, {job.New(item), job.New(other), false}, {api.Job{}, api.Job{}, true},
	} {
		if got := job.Same(c.a, c.b); got != c.want {
			t.Errorf("Same(%v, %v) = %v", c.a, c.b, got)
		}
	}
}
