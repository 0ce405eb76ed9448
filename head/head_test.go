package head_test

import (
	"strings"
	"testing"

	"lockkeeper/api"
	"lockkeeper/crc"
	"lockkeeper/head"
)

func put(t *testing.T, kind int, body string) string {
	t.Helper()
	s, err := head.Put(kind, body)
	if err != api.OK {
		t.Fatalf("Put(%d, %q): %v", kind, body, err)
	}
	return s
}

func bodies() []string {
	return []string{"", "ab", "\x00", "\xb7\x01\x01\x00", strings.Repeat("x", 199), strings.Repeat("\xff", 200)}
}

func TestPut(t *testing.T) {
	if got := put(t, 2, "ab"); got != crc.Seal("\xb7\x01\x02\x02ab") {
		t.Errorf("Put(2, ab) = %q", got)
	}
	for kind := 1; kind <= 3; kind++ {
		for _, body := range bodies() {
			got := put(t, kind, body)
			if want := crc.Seal(string([]byte{183, 1, byte(kind), byte(len(body))}) + body); got != want || len(got) != head.Len(len(body)) {
				t.Errorf("Put(%d, %q) = %q", kind, body, got)
			}
		}
	}
	long := strings.Repeat("x", 201)
	for _, c := range []struct {
		kind int
		body string
		want api.Errno
	}{
		{0, "", api.ErrKind}, {4, "", api.ErrKind}, {-1, "", api.ErrKind}, {257, "", api.ErrKind}, {api.MinInt, "", api.ErrKind},
		{1, long, api.ErrMany}, {0, long, api.ErrKind}, {3, strings.Repeat("x", 256), api.ErrMany},
	} {
		if got, err := head.Put(c.kind, c.body); got != "" || err != c.want {
			t.Errorf("Put(%d, %d bytes) = %q, %v", c.kind, len(c.body), got, err)
		}
	}
}

func TestLen(t *testing.T) {
	for body, want := range map[int]int{0: 6, 1: 7, 17: 23, 200: 206, 201: 0, -1: 0, api.MaxInt: 0, api.MinInt: 0} {
		if got := head.Len(body); got != want {
			t.Errorf("Len(%d) = %d", body, got)
		}
	}
}

func TestFramesAreRecovered(t *testing.T) {
	for kind := 1; kind <= 3; kind++ {
		for _, body := range bodies() {
			s := put(t, kind, body)
			for _, rest := range []string{"", "x", "\x00\x00", s} {
				k, b, n, err := head.First(s + rest)
				if k != kind || b != body || n != len(s) || err != api.OK {
					t.Errorf("First = %d, %q, %d, %v", k, b, n, err)
				}
				k, b, err = head.Get(s + rest)
				if rest == "" {
					if k != kind || b != body || err != api.OK {
						t.Errorf("Get = %d, %q, %v", k, b, err)
					}
				} else if k != 0 || b != "" || err != api.ErrForm {
					t.Errorf("Get with bytes behind = %d, %q, %v", k, b, err)
				}
			}
			for i := range s {
				if k, b, n, err := head.First(s[:i]); k != 0 || b != "" || n != 0 || err != api.ErrShort {
					t.Errorf("First of %d bytes = %d, %q, %d, %v", i, k, b, n, err)
				}
				if _, _, err := head.Get(s[:i]); err != api.ErrShort {
					t.Errorf("Get of %d bytes: %v", i, err)
				}
			}
		}
	}
}

func TestTheFirstErrorFromTheLeft(t *testing.T) {
	good := put(t, 1, "ab")
	for s, want := range map[string]api.Errno{
		"": api.ErrShort, "\xb7": api.ErrShort, "\xb7\x01": api.ErrShort, "\xb7\x01\x01": api.ErrShort, "\xb7\x01\x01\x00": api.ErrShort, "\xb7\x01\x01\x00\x00": api.ErrShort,
		"\xb6": api.ErrForm, "\xb7\x02": api.ErrForm, "\xb7\x00\x09\xff": api.ErrForm, "\x00\x01\x01\x00": api.ErrForm,
		"\xb7\x01\x04": api.ErrKind, "\xb7\x01\x00": api.ErrKind, "\xb7\x01\xff\xff": api.ErrKind,
		"\xb7\x01\x03\xc9": api.ErrMany, "\xb7\x01\x01\xff": api.ErrMany, "\xb7\x01\x01\xc8": api.ErrShort,
		"\xb7\x01\x01\x00\x00\x00": api.ErrSum, good[:len(good)-1] + "!": api.ErrSum, "\xb7\x01\x01\x00\x00\x00x": api.ErrSum,
	} {
		if k, b, n, err := head.First(s); k != 0 || b != "" || n != 0 || err != want {
			t.Errorf("First(%q) = %d, %q, %d, %v; want %v", s, k, b, n, err, want)
		}
		if k, b, err := head.Get(s); k != 0 || b != "" || err != want {
			t.Errorf("Get(%q) = %d, %q, %v; want %v", s, k, b, err, want)
		}
	}
}

func TestChangedFramesAreNoFrames(t *testing.T) {
	s := put(t, 2, "some body")
	for at := 0; at+16 <= 8*len(s); at++ {
		for _, change := range []int{0x8000, 0xffff, 0x8001, 0xc300} {
			other := []byte(s)
			for bit := 0; bit < 16; bit++ {
				if change>>(15-bit)&1 == 1 {
					other[(at+bit)/8] ^= 0x80 >> ((at + bit) % 8)
				}
			}
			if _, _, err := head.Get(string(other)); err == api.OK {
				t.Errorf("changed at bit %d by %x", at, change)
			}
		}
	}
}
