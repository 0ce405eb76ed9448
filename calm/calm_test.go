package calm_test

import (
	"testing"

	"lockkeeper/api"
	"lockkeeper/calm"
)

func knobs(turn, dwell int) api.Knobs { return api.Knobs{Turn: turn, Dwell: dwell} }

func TestExample(t *testing.T) {
	k := knobs(3, 2)
	if calm.First(k) != 3 || calm.Open(k, 5, 8) != 5 || calm.Bright(k, 1, 3) != 4 || calm.Windows(k, 5, 8, 1, 3) != 9 {
		t.Errorf("%d, %d, %d, %d", calm.First(k), calm.Open(k, 5, 8), calm.Bright(k, 1, 3), calm.Windows(k, 5, 8, 1, 3))
	}
	if got := calm.Worst(k, 8, 3); got != 2+8+6 {
		t.Errorf("Worst = %d", got)
	}
}

func TestFirst(t *testing.T) {
	for turn, want := range map[int]int{1: 1, 32: 32, 0: 1, -4: 1, api.MinInt: 1, api.MaxCount: api.MaxCount, api.MaxInt: api.MaxCount} {
		if got := calm.First(knobs(turn, 1)); got != want {
			t.Errorf("First with Turn %d = %d", turn, got)
		}
	}
}

func TestOpen(t *testing.T) {
	for _, c := range []struct{ turn, threshold, levels, want int }{
		{3, 8, 8, 0}, {3, 9, 8, 0}, {3, 7, 8, 3}, {3, 0, 8, 10}, {1, 0, 8, 8}, {0, 0, 8, 8}, {-9, 7, 8, 1}, {3, -5, 8, 10}, {3, -5, 0, 0}, {3, -5, -1, 0},
		{3, 0, api.MaxCount, api.MaxCount}, {1, 0, api.MaxInt, api.MaxCount}, {1, 5, api.MaxInt, api.MaxCount - 5}, {api.MaxInt, 7, 8, api.MaxCount},
		{3, api.MaxCount, api.MaxInt, 0}, {3, api.MaxInt, api.MinInt, 0}, {2, api.MinInt, 4, 5},
	} {
		if got := calm.Open(knobs(c.turn, 1), c.threshold, c.levels); got != c.want {
			t.Errorf("Turn %d: Open(%d, %d) = %d, want %d", c.turn, c.threshold, c.levels, got, c.want)
		}
	}
}

func TestBright(t *testing.T) {
	for _, c := range []struct{ dwell, tier, tiers, want int }{
		{2, 3, 3, 0}, {2, 4, 3, 0}, {2, 0, 7, 14}, {2, 1, 3, 4}, {0, 1, 3, 2}, {-1, 1, 3, 2}, {32, 0, 7, 224}, {2, -5, 3, 6}, {2, -5, -1, 0},
		{2, 0, api.MaxInt, api.MaxCount}, {api.MaxInt, 0, 1, api.MaxCount}, {api.MinInt, 0, api.MaxInt, api.MaxCount},
	} {
		if got := calm.Bright(knobs(1, c.dwell), c.tier, c.tiers); got != c.want {
			t.Errorf("Dwell %d: Bright(%d, %d) = %d, want %d", c.dwell, c.tier, c.tiers, got, c.want)
		}
	}
}

func TestWindowsAndWorst(t *testing.T) {
	for _, k := range []api.Knobs{knobs(1, 1), knobs(3, 2), knobs(32, 32), knobs(0, -1)} {
		for _, levels := range []int{1, 8, 128} {
			for _, tiers := range []int{0, 3, 7} {
				worst := calm.Worst(k, levels, tiers)
				if worst != calm.Windows(k, 0, levels, 0, tiers) {
					t.Errorf("Worst(%d, %d) = %d", levels, tiers, worst)
				}
				for threshold := 0; threshold <= levels; threshold++ {
					for tier := 0; tier <= tiers; tier++ {
						got := calm.Windows(k, threshold, levels, tier, tiers)
						if got != calm.Open(k, threshold, levels)+calm.Bright(k, tier, tiers) || got > worst {
							t.Errorf("Windows(%d, %d, %d, %d) = %d", threshold, levels, tier, tiers, got)
						}
						if threshold > 0 && got > calm.Windows(k, threshold-1, levels, tier, tiers) || tier > 0 && got > calm.Windows(k, threshold, levels, tier-1, tiers) {
							t.Errorf("Windows(%d, %d, %d, %d) = %d is more than with more to open", threshold, levels, tier, tiers, got)
						}
					}
				}
			}
		}
	}
	if got := calm.Windows(knobs(api.MaxInt, api.MaxInt), 0, 1, 0, 1); got != api.MaxCount {
		t.Errorf("at the edge: %d", got)
	}
}
