package crc_test

import (
	"strings"
	"testing"

	"lockkeeper/api"
	"lockkeeper/crc"
)

// slow feeds bit by bit, as the document words it.
func slow(register int, s string) int {
	for i := 0; i < len(s); i++ {
		for bit := 7; bit >= 0; bit-- {
			differs := int(s[i]>>bit)&1 != register>>15
			register = register * 2 % 65536
			if differs {
				register ^= 4129
			}
		}
	}
	return register
}

var texts = []string{"", "a", "123456789", "\x00", "\x00\x00", "\xff", "\xff\xff\xff", "lockkeeper", strings.Repeat("\x80\x01", 50)}

func TestSumFeedsAllBits(t *testing.T) {
	if got := crc.Sum("123456789"); got != 10673 {
		t.Errorf("Sum(123456789) = %d", got)
	}
	if got := crc.Sum(""); got != 65535 {
		t.Errorf("Sum of no bytes = %d", got)
	}
	for _, s := range texts {
		if got, want := crc.Sum(s), slow(65535, s); got != want {
			t.Errorf("Sum(%q) = %d, want %d", s, got, want)
		}
	}
}

func TestMoreBeginsWithTheSumModulo(t *testing.T) {
	for sum, start := range map[int]int{0: 0, 1: 1, 65535: 65535, 65536: 0, 65537: 1, -1: 65535, -65536: 0, api.MaxInt: 65535, api.MinInt: 0} {
		for _, s := range texts {
			if got, want := crc.More(sum, s), slow(start, s); got != want {
				t.Errorf("More(%d, %q) = %d, want %d", sum, s, got, want)
			}
		}
	}
}

func TestSealAndOpen(t *testing.T) {
	if got := crc.Seal(""); got != "\xff\xff" {
		t.Errorf("Seal of no bytes = %q", got)
	}
	for _, s := range texts {
		sum := crc.Sum(s)
		sealed := crc.Seal(s)
		if sealed != s+string([]byte{byte(sum >> 8), byte(sum)}) {
			t.Errorf("Seal(%q) = %q", s, sealed)
		}
		if got, err := crc.Open(sealed); got != s || err != api.OK {
			t.Errorf("Open(%q) = %q, %v", sealed, got, err)
		}
		if got := crc.Sum(sealed); got != 0 {
			t.Errorf("the sum of sealed %q = %d", s, got)
		}
	}
}

func TestOpenRefuses(t *testing.T) {
	for s, want := range map[string]api.Errno{"": api.ErrShort, "a": api.ErrShort, "\xff": api.ErrShort, "\xff\xfe": api.ErrSum, "\x00\x00": api.ErrSum, "a\xff\xff": api.ErrSum} {
		if got, err := crc.Open(s); got != "" || err != want {
			t.Errorf("Open(%q) = %q, %v", s, got, err)
		}
	}
}

func TestApartCountsFromFirstToLastBit(t *testing.T) {
	for _, c := range []struct {
		a, b string
		n    int
		ok   bool
	}{
		{"", "", 0, true}, {"ab", "ab", 0, true}, {"a", "", 0, false}, {"", "a", 0, false}, {"ab", "abc", 0, false},
		{"\x00", "\x01", 1, true}, {"\x00", "\x80", 1, true}, {"\x00", "\x81", 8, true}, {"\x00", "\x18", 2, true},
		{"\x00\x00", "\x01\x80", 2, true}, {"\x00\x00", "\x80\x01", 16, true}, {"x\x00\x00\x00y", "x\x01\x00\x80y", 10, true},
		{"\x00\x00\x00", "\x80\x00\x01", 24, true}, {"\x00\x00\x00", "\x00\x10\x00", 1, true},
	} {
		if n, ok := crc.Apart(c.a, c.b); n != c.n || ok != c.ok {
			t.Errorf("Apart(%q, %q) = %d, %v", c.a, c.b, n, ok)
		}
		if n, ok := crc.Apart(c.b, c.a); n != c.n || ok != c.ok {
			t.Errorf("Apart(%q, %q) = %d, %v", c.b, c.a, n, ok)
		}
	}
}

func TestSumOfTextsOneBehindTheOther(t *testing.T) {
	for _, a := range texts {
		for _, b := range texts {
			if crc.More(crc.Sum(a), b) != crc.Sum(a+b) {
				t.Errorf("%q and %q", a, b)
			}
		}
	}
}

func TestChangesWithinSixteenBitsAreSeen(t *testing.T) {
	sealed := crc.Seal("some bytes to change")
	for at := 0; at+16 <= 8*len(sealed); at++ {
		for _, change := range []int{1 << 15, 0xffff, 0x8001, 0xa5a5, 0x9000} {
			other := []byte(sealed)
			for bit := 0; bit < 16; bit++ {
				if change>>(15-bit)&1 == 1 {
					other[(at+bit)/8] ^= 0x80 >> ((at + bit) % 8)
				}
			}
			if n, ok := crc.Apart(sealed, string(other)); n < 1 || n > 16 || !ok {
				t.Fatalf("at %d by %x: %d bits apart", at, change, n)
			}
			if crc.Sum(string(other)) == crc.Sum(sealed) {
				t.Errorf("at %d by %x: the same sum", at, change)
			}
			if _, err := crc.Open(string(other)); err != api.ErrSum {
				t.Errorf("at %d by %x: opened", at, change)
			}
		}
	}
}
