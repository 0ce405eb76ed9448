package octet_test

import (
	"testing"

	"lockkeeper/api"
	"lockkeeper/octet"
)

func TestPutWritesDigitsMostSignificantFirst(t *testing.T) {
	for _, c := range []struct {
		s        string
		n, width int
		want     string
	}{
		{"x", 258, 3, "x\x00\x01\x02"}, {"", 0, 1, "\x00"}, {"", 255, 1, "\xff"}, {"ab", 256, 2, "ab\x01\x00"},
		{"", 1<<16 - 1, 2, "\xff\xff"}, {"", 1<<32 - 1, 4, "\xff\xff\xff\xff"}, {"\xb7", 0x0102030405, 5, "\xb7\x01\x02\x03\x04\x05"},
		{"", api.MaxId, 6, "\xff\xff\xff\xff\xff\xff"}, {"", 7, 6, "\x00\x00\x00\x00\x00\x07"},
	} {
		if got, err := octet.Put(c.s, c.n, c.width); got != c.want || err != api.OK {
			t.Errorf("Put(%q, %d, %d) = %q, %v", c.s, c.n, c.width, got, err)
		}
	}
}

func TestPutRefusesWhatDoesNotFit(t *testing.T) {
	for _, c := range []struct{ n, width int }{
		{0, 0}, {0, -1}, {0, 7}, {0, 8}, {0, api.MaxInt}, {0, api.MinInt}, {-1, 1}, {-1, 6}, {api.MinInt, 6},
		{256, 1}, {1 << 16, 2}, {1 << 24, 3}, {1 << 32, 4}, {1 << 40, 5}, {1 << 48, 6}, {api.MaxInt, 6},
	} {
		if got, err := octet.Put("x", c.n, c.width); got != "" || err != api.ErrArg {
			t.Errorf("Put(x, %d, %d) = %q, %v", c.n, c.width, got, err)
		}
	}
}

func TestTakeReadsOneNumberAfterTheOther(t *testing.T) {
	c := octet.Read("\x01\x00\x07")
	if n, err := c.Take(2); n != 256 || err != api.OK {
		t.Errorf("first: %d, %v", n, err)
	}
	if n, err := c.Take(2); n != 0 || err != api.ErrShort || c.Left() != 1 {
		t.Errorf("too many: %d, %v, left %d", n, err, c.Left())
	}
	if n, err := c.Take(1); n != 7 || err != api.OK || c.Left() != 0 {
		t.Errorf("last: %d, %v", n, err)
	}
	if n, err := c.Take(1); n != 0 || err != api.ErrShort {
		t.Errorf("behind the end: %d, %v", n, err)
	}
}

func TestTakeRefusesOtherWidths(t *testing.T) {
	c := octet.Read("abcdefghij")
	for _, width := range []int{0, -1, 7, 8, api.MaxInt, api.MinInt} {
		if n, err := c.Take(width); n != 0 || err != api.ErrArg || c.Rest() != "abcdefghij" {
			t.Errorf("Take(%d) = %d, %v, rest %q", width, n, err, c.Rest())
		}
	}
	// The width is examined ahead of the bytes.
	if _, err := octet.Read("").Take(7); err != api.ErrArg {
		t.Errorf("Take(7) of no bytes: %v", err)
	}
}

func TestBytes(t *testing.T) {
	c := octet.Read("abcd")
	if s, err := c.Bytes(0); s != "" || err != api.OK || c.Left() != 4 {
		t.Errorf("none: %q, %v", s, err)
	}
	if s, err := c.Bytes(3); s != "abc" || err != api.OK || c.Rest() != "d" || c.Left() != 1 {
		t.Errorf("three: %q, %v, rest %q", s, err, c.Rest())
	}
	for n, want := range map[int]api.Errno{-1: api.ErrArg, api.MinInt: api.ErrArg, 2: api.ErrShort, api.MaxInt: api.ErrShort} {
		if s, err := c.Bytes(n); s != "" || err != want || c.Rest() != "d" {
			t.Errorf("Bytes(%d) = %q, %v, rest %q", n, s, err, c.Rest())
		}
	}
	if s, err := c.Bytes(1); s != "d" || err != api.OK || c.Rest() != "" {
		t.Errorf("last: %q, %v", s, err)
	}
}

func TestNilAndZeroCursorsHaveNoBytes(t *testing.T) {
	for name, c := range map[string]*octet.Cursor{"nil": nil, "zero": {}} {
		if c.Left() != 0 || c.Rest() != "" {
			t.Errorf("%s: left %d, rest %q", name, c.Left(), c.Rest())
		}
		if n, err := c.Take(1); n != 0 || err != api.ErrShort {
			t.Errorf("%s: Take(1) = %d, %v", name, n, err)
		}
		if _, err := c.Take(0); err != api.ErrArg {
			t.Errorf("%s: Take(0): %v", name, err)
		}
		if s, err := c.Bytes(0); s != "" || err != api.OK {
			t.Errorf("%s: Bytes(0) = %q, %v", name, s, err)
		}
		if _, err := c.Bytes(1); err != api.ErrShort {
			t.Errorf("%s: Bytes(1): %v", name, err)
		}
		if _, err := c.Bytes(-1); err != api.ErrArg {
			t.Errorf("%s: Bytes(-1): %v", name, err)
		}
	}
}

func TestNumbersAreReadAsTheyWereWritten(t *testing.T) {
	numbers := []int{0, 1, 127, 128, 255}
	s := ""
	for _, n := range numbers {
		for width := 1; width <= 6; width++ {
			s, _ = octet.Put(s, n<<(8*(width-1)), width)
		}
	}
	c := octet.Read(s)
	for _, n := range numbers {
		for width := 1; width <= 6; width++ {
			if got, err := c.Take(width); got != n<<(8*(width-1)) || err != api.OK {
				t.Errorf("width %d: %d, %v", width, got, err)
			}
		}
	}
	if c.Left() != 0 {
		t.Errorf("left %d", c.Left())
	}
}
