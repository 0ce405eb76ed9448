package split_test

import (
	"slices"
	"testing"

	"lockkeeper/api"
	"lockkeeper/split"
)

func TestPart(t *testing.T) {
	for _, c := range []struct{ left, weight, want int }{
		{20, 4, 10}, {20, 8, 20}, {20, 0, 0}, {20, 1, 2}, {7, 3, 2}, {7, 8, 7}, {7, 9, 7}, {20, -1, 0}, {-5, 4, 0}, {0, 8, 0}, {1, 7, 0},
		{api.MaxTicks, 8, api.MaxTicks}, {api.MaxInt, 8, api.MaxTicks}, {api.MaxInt, 1, api.MaxTicks / 8}, {api.MinInt, api.MinInt, 0}, {16, api.MaxInt, 16},
	} {
		if got := split.Part(c.left, c.weight); got != c.want {
			t.Errorf("Part(%d, %d) = %d", c.left, c.weight, got)
		}
	}
}

func TestHop(t *testing.T) {
	for _, c := range []struct{ part, most, want int }{
		{10, 20, 5}, {11, 20, 5}, {10, 3, 3}, {10, 0, 0}, {10, -1, 0}, {1, 9, 0}, {2, 9, 1}, {-8, 9, 0}, {api.MaxInt, api.MaxInt, api.MaxBudget},
		{api.MaxTicks, 70000, 65535}, {200000, 65535, 65535}, {131070, 65535, 65535}, {131068, 65535, 65534}, {api.MinInt, 5, 0},
	} {
		if got := split.Hop(c.part, c.most); got != c.want {
			t.Errorf("Hop(%d, %d) = %d", c.part, c.most, got)
		}
	}
}

func TestCall(t *testing.T) {
	for _, c := range []struct {
		now, deadline, weight, most int
		until, wait                 int
		ok                          bool
	}{
		{10, 30, 4, 20, 20, 5, true}, {10, 12, 4, 20, 0, 0, false}, {10, 14, 4, 20, 12, 1, true}, {10, 30, 4, 2, 20, 2, true}, {10, 30, 4, 0, 0, 0, false},
		{10, 30, 8, 20, 30, 10, true}, {10, 30, 0, 20, 0, 0, false}, {10, 10, 8, 20, 0, 0, false}, {10, 5, 8, 20, 0, 0, false}, {-10, 4, 8, 20, 4, 2, true},
		{0, api.MaxInt, 8, api.MaxInt, api.MaxTicks, 65535, true}, {api.MinInt, 8, 8, 9, 8, 4, true}, {api.MaxInt, api.MaxInt, 8, 9, 0, 0, false},
		{10, 30, 4, -3, 0, 0, false}, {10, 30, -4, 20, 0, 0, false},
	} {
		if until, wait, ok := split.Call(c.now, c.deadline, c.weight, c.most); until != c.until || wait != c.wait || ok != c.ok {
			t.Errorf("Call(%d, %d, %d, %d) = %d, %d, %v", c.now, c.deadline, c.weight, c.most, until, wait, ok)
		}
	}
}

func TestChain(t *testing.T) {
	for _, c := range []struct {
		now, deadline int
		weights       []int
		want          []int
	}{
		{10, 30, nil, nil}, {10, 30, []int{4}, []int{20}}, {10, 30, []int{4, 4, 4, 4}, []int{20, 15, 12}}, {10, 30, []int{8, 8}, []int{30, 30}},
		{10, 30, []int{4, 0, 8}, []int{20}}, {10, 11, []int{8}, nil}, {0, 1 << 20, []int{8, 4}, []int{1 << 20, 1 << 19}}, {10, 30, []int{6, 6, 6}, []int{25, 21, 18}},
	} {
		if got := split.Chain(c.now, c.deadline, c.weights...); !slices.Equal(got, c.want) {
			t.Errorf("Chain(%d, %d, %v) = %v", c.now, c.deadline, c.weights, got)
		}
	}
}

func TestCallsEndInTime(t *testing.T) {
	for now := 0; now < 12; now++ {
		for deadline := 0; deadline < 40; deadline++ {
			lastUntil, lastWait := 0, 0
			for weight := 0; weight <= 8; weight++ {
				until, wait, ok := split.Call(now, deadline, weight, 7)
				if ok && (until > deadline || wait >= until-now || wait < 1 || wait > 7) {
					t.Errorf("Call(%d, %d, %d) = %d, %d", now, deadline, weight, until, wait)
				}
				if until < lastUntil || wait < lastWait {
					t.Errorf("Call(%d, %d, %d) = %d, %d yields less than a smaller weight", now, deadline, weight, until, wait)
				}
				lastUntil, lastWait = until, wait
			}
		}
	}
}
