package level_test

import (
	"strconv"
	"testing"

	"lockkeeper/api"
	"lockkeeper/level"
)

func grid(t *testing.T, business, classes int) level.Grid {
	t.Helper()
	g, err := level.New(business, classes)
	if err != api.OK {
		t.Fatalf("New(%d, %d): %v", business, classes, err)
	}
	return g
}

func TestNewExaminesBothNumbers(t *testing.T) {
	for business := -1; business <= 9; business++ {
		for classes := -1; classes <= 17; classes++ {
			g, err := level.New(business, classes)
			if business >= 1 && business <= 8 && classes >= 1 && classes <= 16 {
				if err != api.OK || g.Levels() != business*classes {
					t.Errorf("New(%d, %d): %v, %d levels", business, classes, err, g.Levels())
				}
			} else if err != api.ErrArg || g != (level.Grid{}) {
				t.Errorf("New(%d, %d) = %v, %v", business, classes, g, err)
			}
		}
	}
	for _, n := range []int{api.MinInt, api.MaxInt} {
		if _, err := level.New(n, 1); err != api.ErrArg {
			t.Errorf("New(%d, 1): %v", n, err)
		}
		if _, err := level.New(1, n); err != api.ErrArg {
			t.Errorf("New(1, %d): %v", n, err)
		}
	}
}

func TestLevelsGoByBusinessFirst(t *testing.T) {
	for _, size := range [][2]int{{1, 1}, {4, 8}, {8, 16}, {8, 1}, {1, 16}} {
		g := grid(t, size[0], size[1])
		want := 0
		for b := 0; b < size[0]; b++ {
			for c := 0; c < size[1]; c++ {
				if n, err := g.Of(b, c); n != want || err != api.OK {
					t.Errorf("Of(%d, %d) = %d, %v", b, c, n, err)
				}
				if x, y, err := g.Split(want); x != b || y != c || err != api.OK {
					t.Errorf("Split(%d) = %d, %d, %v", want, x, y, err)
				}
				s := strconv.Itoa(b) + "." + strconv.Itoa(c)
				if got, err := g.Text(want); got != s || err != api.OK {
					t.Errorf("Text(%d) = %q, %v", want, got, err)
				}
				if got, err := g.Parse(s); got != want || err != api.OK {
					t.Errorf("Parse(%q) = %d, %v", s, got, err)
				}
				want++
			}
		}
	}
}

func TestWhatIsNotInTheGrid(t *testing.T) {
	g := grid(t, 4, 8)
	for _, x := range [][2]int{{-1, 0}, {4, 0}, {0, -1}, {0, 8}, {api.MaxInt, api.MaxInt}, {api.MinInt, 0}, {3, 8}} {
		if n, err := g.Of(x[0], x[1]); n != 0 || err != api.ErrArg {
			t.Errorf("Of(%d, %d) = %d, %v", x[0], x[1], n, err)
		}
	}
	for _, n := range []int{-1, 32, 33, api.MaxInt, api.MinInt} {
		if a, b, err := g.Split(n); a != 0 || b != 0 || err != api.ErrArg {
			t.Errorf("Split(%d) = %d, %d, %v", n, a, b, err)
		}
		if s, err := g.Text(n); s != "" || err != api.ErrArg {
			t.Errorf("Text(%d) = %q, %v", n, s, err)
		}
	}
	for s, want := range map[string]api.Errno{
		"": api.ErrForm, ".": api.ErrForm, "2": api.ErrForm, "2.": api.ErrForm, ".3": api.ErrForm, "2.3.1": api.ErrForm, "02.3": api.ErrForm,
		"2.+3": api.ErrForm, "2,3": api.ErrForm, " 2.3": api.ErrForm, "a.3": api.ErrForm, "9.x": api.ErrForm,
		"4.0": api.ErrArg, "0.8": api.ErrArg, "-1.0": api.ErrArg, "0.-1": api.ErrArg, "9223372036854775807.0": api.ErrArg,
	} {
		if n, err := g.Parse(s); n != 0 || err != want {
			t.Errorf("Parse(%q) = %d, %v", s, n, err)
		}
	}
}

func TestZeroGridHasNoLevels(t *testing.T) {
	var g level.Grid
	if g.Levels() != 0 {
		t.Errorf("%d levels", g.Levels())
	}
	if _, err := g.Of(0, 0); err != api.ErrArg {
		t.Errorf("Of: %v", err)
	}
	if _, _, err := g.Split(0); err != api.ErrArg {
		t.Errorf("Split: %v", err)
	}
	if _, err := g.Text(0); err != api.ErrArg {
		t.Errorf("Text: %v", err)
	}
	if _, err := g.Parse("0.0"); err != api.ErrArg {
		t.Errorf("Parse: %v", err)
	}
	if _, err := g.Parse("0"); err != api.ErrForm {
		t.Errorf("Parse: %v", err)
	}
}

func TestGridsAreHeldAgainstEachOther(t *testing.T) {
	if grid(t, 2, 3) != grid(t, 2, 3) || grid(t, 2, 3) == grid(t, 3, 2) {
		t.Error("grids as structs")
	}
}

func TestPasses(t *testing.T) {
	for _, c := range []struct {
		level, threshold int
		want             bool
	}{
		{0, 0, false}, {0, 1, true}, {1, 1, false}, {2, 3, true}, {3, 3, false}, {127, 128, true}, {-1, 5, false}, {-1, 0, false}, {0, -1, false},
		{api.MinInt, api.MaxInt, false}, {api.MaxInt - 1, api.MaxInt, true}, {api.MaxInt, api.MaxInt, false}, {5, api.MinInt, false},
	} {
		if got := level.Passes(c.level, c.threshold); got != c.want {
			t.Errorf("Passes(%d, %d) = %v", c.level, c.threshold, got)
		}
	}
}
