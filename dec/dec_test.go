package dec_test

import (
	"math"
	"slices"
	"strings"
	"testing"

	"lockkeeper/api"
	"lockkeeper/dec"
)

var numbers = map[int]string{
	0: "0", 1: "1", -1: "-1", 7: "7", -7: "-7", 10: "10", 100: "100", -120: "-120", 4294967295: "4294967295",
	api.MaxInt: "9223372036854775807", api.MinInt: "-9223372036854775808",
}

var wrong = []string{
	"", "-", "+7", "07", "-07", "-0", "00", "0x1", "1_0", " 1", "1 ", "1.0", "1e3", "a", "--1", "1-", "٣", "7\n", "\x00",
	"9223372036854775808", "-9223372036854775809", "99999999999999999999999999",
}

func TestNumbers(t *testing.T) {
	for n, s := range numbers {
		if got := dec.Text(n); got != s {
			t.Errorf("Text(%d) = %q", n, got)
		}
		if got, err := dec.Parse(s); got != n || err != api.OK {
			t.Errorf("Parse(%q) = %d, %v", s, got, err)
		}
	}
	for _, s := range wrong {
		if got, err := dec.Parse(s); got != 0 || err != api.ErrForm {
			t.Errorf("Parse(%q) = %d, %v", s, got, err)
		}
	}
}

func TestLists(t *testing.T) {
	for _, c := range []struct {
		l []int
		s string
	}{
		{nil, "-"}, {[]int{}, "-"}, {[]int{0}, "0"}, {[]int{-1}, "-1"}, {[]int{3, -1}, "3,-1"}, {[]int{1, 1, 1}, "1,1,1"},
		{[]int{api.MinInt, api.MaxInt}, "-9223372036854775808,9223372036854775807"},
	} {
		if got := dec.List(c.l...); got != c.s {
			t.Errorf("List(%v) = %q", c.l, got)
		}
		if got, err := dec.ParseList(c.s); !slices.Equal(got, c.l) || err != api.OK {
			t.Errorf("ParseList(%q) = %v, %v", c.s, got, err)
		}
	}
	for _, s := range []string{"", ",", "1,", ",1", "1,,2", "1, 2", "-,1", "1,-", "1;2", "1,02", "1,9223372036854775808"} {
		if got, err := dec.ParseList(s); got != nil || err != api.ErrForm {
			t.Errorf("ParseList(%q) = %v, %v", s, got, err)
		}
	}
}

func TestHexadecimalDigits(t *testing.T) {
	for n, s := range map[uint64]string{
		0: "0000000000000000", 1: "0000000000000001", 255: "00000000000000ff", 0x0123456789abcdef: "0123456789abcdef",
		1 << 63: "8000000000000000", math.MaxUint64: "ffffffffffffffff",
	} {
		if got := dec.Hex(n); got != s {
			t.Errorf("Hex(%d) = %q", n, got)
		}
		if got, err := dec.ParseHex(s); got != n || err != api.OK {
			t.Errorf("ParseHex(%q) = %d, %v", s, got, err)
		}
	}
	for _, s := range []string{"", "ff", "00000000000000FF", "00000000000000fg", "0x00000000000000", "000000000000000", "00000000000000000", "000000000000000 ", "-000000000000001", strings.Repeat("f", 32)} {
		if got, err := dec.ParseHex(s); got != 0 || err != api.ErrForm {
			t.Errorf("ParseHex(%q) = %d, %v", s, got, err)
		}
	}
}
