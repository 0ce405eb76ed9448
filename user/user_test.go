package user_test

import (
	"math"
	"slices"
	"testing"

	"lockkeeper/api"
	"lockkeeper/mix"
	"lockkeeper/user"
)

func users(t *testing.T, key uint64, classes, rotate int) user.Users {
	t.Helper()
	u, err := user.New(key, classes, rotate)
	if err != api.OK {
		t.Fatalf("New(%d, %d, %d): %v", key, classes, rotate, err)
	}
	return u
}

func TestNewExaminesClassesAndRotate(t *testing.T) {
	for _, c := range []struct {
		classes, rotate int
		want            api.Errno
	}{
		{1, 1, api.OK}, {16, api.MaxTicks, api.OK}, {0, 1, api.ErrArg}, {17, 1, api.ErrArg}, {-1, 1, api.ErrArg}, {api.MaxInt, 1, api.ErrArg},
		{1, 0, api.ErrArg}, {1, -1, api.ErrArg}, {1, api.MaxTicks + 1, api.ErrArg}, {1, api.MinInt, api.ErrArg},
	} {
		u, err := user.New(0, c.classes, c.rotate)
		if err != c.want {
			t.Errorf("New(0, %d, %d): %v", c.classes, c.rotate, err)
		}
		if err != api.OK && u != (user.Users{}) {
			t.Errorf("New(0, %d, %d) = %v beside an error", c.classes, c.rotate, u)
		}
	}
}

func TestTurnAndNext(t *testing.T) {
	for _, c := range []struct{ rotate, now, turn, next int }{
		{10, 25, 2, 30}, {10, 0, 0, 10}, {10, 9, 0, 10}, {10, 10, 1, 20}, {1, 7, 7, 8}, {10, -5, 0, 10}, {10, api.MinInt, 0, 10},
		{api.MaxTicks, 5, 0, api.MaxTicks}, {api.MaxTicks, api.MaxTicks, 1, api.MaxTicks}, {1, api.MaxTicks, api.MaxTicks, api.MaxTicks},
		{1, api.MaxInt, api.MaxTicks, api.MaxTicks}, {api.MaxTicks - 1, api.MaxTicks, 1, api.MaxTicks}, {1000, api.MaxTicks - 1, (api.MaxTicks - 1) / 1000, api.MaxTicks},
	} {
		u := users(t, 3, 4, c.rotate)
		if got := u.Turn(c.now); got != c.turn {
			t.Errorf("periods of %d: Turn(%d) = %d", c.rotate, c.now, got)
		}
		if got := u.Next(c.now); got != c.next {
			t.Errorf("periods of %d: Next(%d) = %d", c.rotate, c.now, got)
		}
	}
}

func TestClassIsThatOfMix(t *testing.T) {
	for _, key := range []uint64{0, 1, math.MaxUint64} {
		for _, classes := range []int{1, 3, 16} {
			u := users(t, key, classes, 10)
			for _, who := range []uint64{0, 1, 77, math.MaxUint64} {
				for _, now := range []int{-1, 0, 9, 10, 25, api.MaxInt} {
					if got, want := u.Class(who, now), mix.Class(key, uint64(u.Turn(now)), who, classes); got != want {
						t.Errorf("Class(%d, %d) = %d, want %d", who, now, got, want)
					}
				}
			}
		}
	}
}

func TestSpreadCountsEachUserOnce(t *testing.T) {
	u := users(t, 9, 5, 10)
	var l []uint64
	for who := uint64(0); who < 200; who++ {
		l = append(l, who, who*who)
	}
	for _, now := range []int{0, 15, 1000} {
		want := make([]int, 5)
		for _, who := range l {
			want[u.Class(who, now)]++
		}
		if got := u.Spread(now, l...); !slices.Equal(got, want) {
			t.Errorf("Spread at %d = %v, want %v", now, got, want)
		}
	}
	if got := u.Spread(0); !slices.Equal(got, []int{0, 0, 0, 0, 0}) {
		t.Errorf("Spread of nobody = %v", got)
	}
}

func TestClassesStayWithinAPeriodAndChangeBetween(t *testing.T) {
	u := users(t, 1, 16, 10)
	moved := false
	for who := uint64(0); who < 50; who++ {
		for now := 0; now < 10; now++ {
			if u.Class(who, now) != u.Class(who, 0) {
				t.Errorf("user %d moves at %d", who, now)
			}
		}
		moved = moved || u.Class(who, 10) != u.Class(who, 9)
	}
	if !moved {
		t.Error("nobody moves with the period")
	}
}

func TestZeroUsers(t *testing.T) {
	var u user.Users
	if u.Turn(50) != 0 || u.Next(50) != 0 || u.Class(7, 50) != 0 || len(u.Spread(50, 1, 2, 3)) != 0 {
		t.Error("zero users are something")
	}
}
