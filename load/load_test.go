package load_test

import (
	"testing"

	"lockkeeper/api"
	"lockkeeper/load"
)

func expect(t *testing.T, l *load.Load, many, sum, worst, mean int) {
	t.Helper()
	if l.Many() != many || l.Sum() != sum || l.Worst() != worst || l.Mean() != mean {
		t.Errorf("many %d, sum %d, worst %d, mean %d; want %d, %d, %d, %d", l.Many(), l.Sum(), l.Worst(), l.Mean(), many, sum, worst, mean)
	}
}

func TestWaitsAreCounted(t *testing.T) {
	l := load.New()
	expect(t, l, 0, 0, 0, 0)
	l.Wait(4)
	expect(t, l, 1, 4, 4, 4)
	l.Wait(9)
	l.Wait(5)
	expect(t, l, 3, 18, 9, 6)
	l.Wait(0)
	expect(t, l, 4, 18, 9, 4)
	l.Wait(-7)
	expect(t, l, 5, 18, 9, 3)
	l.Clear()
	expect(t, l, 0, 0, 0, 0)
}

func TestNumbersStopAtTheGreatestCount(t *testing.T) {
	l := load.New()
	l.Wait(api.MaxInt)
	expect(t, l, 1, api.MaxCount, api.MaxCount, api.MaxCount)
	l.Wait(api.MaxCount)
	expect(t, l, 2, api.MaxCount, api.MaxCount, api.MaxCount/2)
	l.Wait(api.MinInt)
	expect(t, l, 3, api.MaxCount, api.MaxCount, api.MaxCount/3)
}

func TestVerdict(t *testing.T) {
	l := load.New()
	for _, ticks := range []int{4, 5, 9} {
		l.Wait(ticks)
	}
	for _, c := range []struct{ low, high, want int }{
		{3, 5, api.Over}, {3, 6, api.Mid}, {7, 8, api.Calm}, {6, 6, api.Mid}, {7, 6, api.Calm}, {7, 5, api.Over},
		{api.MinInt, api.MaxInt, api.Mid}, {api.MaxInt, api.MaxInt, api.Calm}, {0, api.MinInt, api.Over},
	} {
		if got := l.Verdict(c.low, c.high); got != c.want {
			t.Errorf("Verdict(%d, %d) = %d", c.low, c.high, got)
		}
	}
}

func TestEmptyNilAndZeroWindows(t *testing.T) {
	for name, l := range map[string]*load.Load{"new": load.New(), "zero": {}, "nil": nil} {
		expect(t, l, 0, 0, 0, 0)
		for _, c := range []struct{ low, high, want int }{{0, 0, api.Mid}, {1, 4, api.Calm}, {0, -1, api.Over}, {1, -1, api.Over}} {
			if got := l.Verdict(c.low, c.high); got != c.want {
				t.Errorf("%s: Verdict(%d, %d) = %d", name, c.low, c.high, got)
			}
		}
	}
	var none *load.Load
	none.Wait(5)
	none.Clear()
	expect(t, none, 0, 0, 0, 0)
	zero := &load.Load{}
	zero.Wait(5)
	expect(t, zero, 1, 5, 5, 5)
}
