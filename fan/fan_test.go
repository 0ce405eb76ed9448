package fan_test

import (
	"slices"
	"testing"

	"lockkeeper/api"
	"lockkeeper/fan"
	"lockkeeper/split"
	"lockkeeper/table"
)

// told knows that of 1 the threshold 3 was told at tick 10, for 5 ticks.
func told(t *testing.T) *table.Table {
	t.Helper()
	x, err := table.New(5)
	if err != api.OK {
		t.Fatal(err)
	}
	x.Learn(1, 3, 1, 10)
	return x
}

var now = fan.Now{Tier: 1, Level: 3, Tick: 10, Deadline: 30}

func TestStep(t *testing.T) {
	known := told(t)
	later := now
	later.Tick = 16
	urgent := now
	urgent.Level = 2
	dark := now
	dark.Tier = -3
	over := now
	over.Deadline = 10
	for _, c := range []struct {
		call api.Call
		x    fan.Now
		t    *table.Table
		want api.Step
	}{
		{api.Call{To: 2, Weight: 4, Most: 20}, now, known, api.Step{To: 2, Deadline: 20, Budget: 5, Required: true}},
		{api.Call{To: 2, Weight: 4, Most: 3}, now, nil, api.Step{To: 2, Deadline: 20, Budget: 3, Required: true}},
		{api.Call{To: 2, Tier: 1, Weight: 8, Most: 20}, now, known, api.Step{To: 2, Deadline: 30, Budget: 10}},
		{api.Call{To: 2, Tier: 2, Weight: 8, Most: 20}, now, known, api.Step{To: 2, Code: api.Dimmed}},
		{api.Call{To: 2, Tier: 0, Weight: 8, Most: 20}, dark, known, api.Step{To: 2, Deadline: 30, Budget: 10, Required: true}},
		{api.Call{To: 2, Tier: -1, Weight: 8, Most: 20}, dark, known, api.Step{To: 2, Deadline: 30, Budget: 10}},
		{api.Call{To: 2, Tier: 1, Weight: 8, Most: 20}, dark, known, api.Step{To: 2, Code: api.Dimmed}},
		{api.Call{To: 2, Weight: 4, Most: 0}, now, known, api.Step{To: 2, Code: api.Starved, Required: true}},
		{api.Call{To: 2, Weight: 4, Most: 20}, over, known, api.Step{To: 2, Code: api.Starved, Required: true}},
		{api.Call{To: 1, Weight: 4, Most: 20}, now, known, api.Step{To: 1, Code: api.Cut, Required: true}},
		{api.Call{To: 1, Tier: 1, Weight: 4, Most: 20}, now, known, api.Step{To: 1, Code: api.Cut}},
		{api.Call{To: 1, Weight: 4, Most: 20}, urgent, known, api.Step{To: 1, Deadline: 20, Budget: 5, Required: true}},
		{api.Call{To: 1, Weight: 4, Most: 20}, later, known, api.Step{To: 1, Deadline: 23, Budget: 3, Required: true}},
		{api.Call{To: 1, Weight: 4, Most: 20}, now, nil, api.Step{To: 1, Deadline: 20, Budget: 5, Required: true}},
		// The first reason counts.
		{api.Call{To: 1, Tier: 2, Weight: 0, Most: 20}, now, known, api.Step{To: 1, Code: api.Dimmed}},
		{api.Call{To: 1, Weight: 0, Most: 20}, now, known, api.Step{To: 1, Code: api.Starved, Required: true}},
	} {
		if got := fan.Step(c.call, c.x, c.t); got != c.want {
			t.Errorf("Step(%v, %v) = %v, want %v", c.call, c.x, got, c.want)
		}
	}
}

func TestPlan(t *testing.T) {
	known := told(t)
	calls := func(l ...api.Call) api.Service { return api.Service{Calls: l} }
	good := api.Call{To: 2, Weight: 4, Most: 20}
	cut := api.Call{To: 1, Weight: 4, Most: 20}
	starved := api.Call{To: 3, Weight: 0, Most: 20}
	dimmed := api.Call{To: 4, Tier: 2, Weight: 4, Most: 20}
	cutToo := api.Call{To: 1, Tier: 1, Weight: 4, Most: 20}
	for _, c := range []struct {
		s    api.Service
		want api.Plan
	}{
		{calls(), api.Plan{}}, {calls(good), api.Plan{Steps: []api.Step{{To: 2, Deadline: 20, Budget: 5, Required: true}}}},
		{calls(dimmed, good, cutToo), api.Plan{Steps: []api.Step{{To: 4, Code: api.Dimmed}, {To: 2, Deadline: 20, Budget: 5, Required: true}, {To: 1, Code: api.Cut}}}},
		{calls(good, cut), api.Plan{Code: api.Cut}}, {calls(cut, starved), api.Plan{Code: api.Cut}}, {calls(dimmed, starved, cut), api.Plan{Code: api.Starved}},
	} {
		got := fan.Plan(c.s, now, known)
		if got.Code != c.want.Code || !slices.Equal(got.Steps, c.want.Steps) || !fan.Same(got, c.want) {
			t.Errorf("Plan(%v) = %v, want %v", c.s.Calls, got, c.want)
		}
	}
}

func TestSame(t *testing.T) {
	step := api.Step{To: 2, Deadline: 20, Budget: 5, Required: true}
	for i, change := range []func(s *api.Step){
		func(s *api.Step) { s.To++ }, func(s *api.Step) { s.Code++ }, func(s *api.Step) { s.Deadline++ }, func(s *api.Step) { s.Budget++ }, func(s *api.Step) { s.Required = false },
	} {
		other := step
		change(&other)
		if fan.Same(api.Plan{Steps: []api.Step{step}}, api.Plan{Steps: []api.Step{other}}) {
			t.Errorf("change %d does not count", i)
		}
	}
	if fan.Same(api.Plan{Code: 1}, api.Plan{}) || fan.Same(api.Plan{Steps: []api.Step{step}}, api.Plan{}) || !fan.Same(api.Plan{Steps: []api.Step{}}, api.Plan{}) {
		t.Error("Same")
	}
}

func TestPropertiesOfPlans(t *testing.T) {
	known := told(t)
	n := uint32(31)
	next := func(k int) int {
		n = n*1664525 + 1013904223
		return int(n>>16) % k
	}
	for round := 0; round < 2000; round++ {
		s := api.Service{}
		for to := range next(5) {
			s.Calls = append(s.Calls, api.Call{To: to, Tier: next(4), Weight: next(9), Most: next(6)})
		}
		x := fan.Now{Tier: next(4), Level: next(6), Tick: 8 + next(10), Deadline: next(40)}
		p := fan.Plan(s, x, known)
		if p.Code != 0 && len(p.Steps) > 0 || p.Code == 0 && len(p.Steps) != len(s.Calls) {
			t.Fatalf("%v", p)
		}
		for i, step := range p.Steps {
			c := s.Calls[i]
			if step.To != c.To || step.Required != (c.Tier == 0) || step.Required && step.Code != 0 || step.Deadline > max(x.Deadline, 0) {
				t.Fatalf("%v of %v at %v", step, c, x)
			}
			if step.Code == api.Cut && c.To != 1 || step.Code != 0 && (step.Deadline != 0 || step.Budget != 0) {
				t.Fatalf("%v of %v at %v", step, c, x)
			}
			if step.Code == 0 {
				if until, wait, ok := split.Call(x.Tick, x.Deadline, c.Weight, c.Most); !ok || until != step.Deadline || wait != step.Budget {
					t.Fatalf("%v of %v at %v", step, c, x)
				}
			}
			more := x
			more.Tier++
			if step.Code != api.Dimmed && fan.Step(c, more, known).Code == api.Dimmed {
				t.Fatalf("%v is dimmed with a greater tier", c)
			}
		}
	}
}
