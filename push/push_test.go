package push_test

import (
	"testing"

	"lockkeeper/api"
	"lockkeeper/push"
)

var usual = api.Push{To: 2, Version: 7, Knobs: api.Knobs{Low: 1, High: 4, Cut: 10, Lift: 5, Floor: 1, Turn: 3, Dwell: 2}}

const usualBody = "\x02\x00\x00\x00\x07\x00\x01\x00\x04\x0a\x05\x01\x03\x02"

// field is one of a push's nine numbers, with the greatest that it may be.
type field struct {
	at   func(p *api.Push) *int
	most int
}

func fields() []field {
	return []field{
		{func(p *api.Push) *int { return &p.To }, 7}, {func(p *api.Push) *int { return &p.Version }, api.MaxEpoch},
		{func(p *api.Push) *int { return &p.Knobs.Low }, 65535}, {func(p *api.Push) *int { return &p.Knobs.High }, 65535},
		{func(p *api.Push) *int { return &p.Knobs.Cut }, 255}, {func(p *api.Push) *int { return &p.Knobs.Lift }, 255},
		{func(p *api.Push) *int { return &p.Knobs.Floor }, 255}, {func(p *api.Push) *int { return &p.Knobs.Turn }, 255},
		{func(p *api.Push) *int { return &p.Knobs.Dwell }, 255},
	}
}

func TestValidPushesAreRecovered(t *testing.T) {
	for i, f := range fields() {
		for _, n := range []int{0, 1, f.most - 1, f.most} {
			p := usual
			*f.at(&p) = n
			if err := push.Check(p); err != api.OK {
				t.Errorf("field %d is %d: Check: %v", i, n, err)
			}
			body, err := push.Put(p)
			if len(body) != 14 || err != api.OK {
				t.Errorf("field %d is %d: Put = %q, %v", i, n, body, err)
			}
			if got, err := push.Get(body); got != p || err != api.OK {
				t.Errorf("field %d is %d: Get = %v, %v", i, n, got, err)
			}
		}
	}
	if body, _ := push.Put(usual); body != usualBody {
		t.Errorf("Put = %q", body)
	}
	p := api.Push{To: 1, Version: 0x02030405, Knobs: api.Knobs{Low: 0x0607, High: 0x0809, Cut: 10, Lift: 11, Floor: 12, Turn: 13, Dwell: 14}}
	if body, _ := push.Put(p); body != "\x01\x02\x03\x04\x05\x06\x07\x08\x09\x0a\x0b\x0c\x0d\x0e" {
		t.Errorf("Put = %q", body)
	}
}

func TestWrongPushesAreRefused(t *testing.T) {
	for i, f := range fields() {
		for _, n := range []int{-1, f.most + 1, api.MinInt, api.MaxInt} {
			p := usual
			*f.at(&p) = n
			if err := push.Check(p); err != api.ErrArg {
				t.Errorf("field %d is %d: Check: %v", i, n, err)
			}
			if body, err := push.Put(p); body != "" || err != api.ErrArg {
				t.Errorf("field %d is %d: Put = %q, %v", i, n, body, err)
			}
		}
	}
}

func TestGetRefuses(t *testing.T) {
	for i := range usualBody {
		if got, err := push.Get(usualBody[:i]); got != (api.Push{}) || err != api.ErrShort {
			t.Errorf("%d bytes: %v, %v", i, got, err)
		}
	}
	if _, err := push.Get("\xff\xff\xff"); err != api.ErrShort {
		t.Errorf("short and wrong: %v", err)
	}
	for _, body := range []string{usualBody + "\x00", "\x08" + usualBody[1:], "\xff" + usualBody[1:]} {
		if got, err := push.Get(body); got != (api.Push{}) || err != api.ErrForm {
			t.Errorf("Get(%q) = %v, %v", body, got, err)
		}
	}
}

func TestBodiesThatAreAcceptedAreThoseOfTheirPushes(t *testing.T) {
	for at := range usualBody {
		for b := 0; b < 256; b++ {
			body := []byte(usualBody)
			body[at] = byte(b)
			p, err := push.Get(string(body))
			if at > 0 && err != api.OK {
				t.Errorf("Get(%q): %v", body, err)
			}
			if err == api.OK {
				if again, _ := push.Put(p); again != string(body) {
					t.Errorf("%q is read as %v", body, p)
				}
			}
		}
	}
}

func TestLater(t *testing.T) {
	for version, want := range map[int]bool{6: true, 7: false, 8: false, 0: true, -1: true, api.MaxInt: false, api.MinInt: true} {
		if got := push.Later(usual, version); got != want {
			t.Errorf("Later than %d: %v", version, got)
		}
	}
}
