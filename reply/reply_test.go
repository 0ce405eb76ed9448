package reply_test

import (
	"testing"

	"lockkeeper/api"
	"lockkeeper/reply"
)

var usual = api.Reply{Id: 5, From: 2, To: -1, Code: 1, Threshold: 3, Epoch: 9, Tier: 1}

const usualBody = "\x00\x00\x00\x00\x00\x05\x02\x00\x01\x03\x00\x00\x00\x09\x01"

// all makes usual with each number from a list in one of its fields.
func all(field func(r *api.Reply) *int, l ...int) []api.Reply {
	var out []api.Reply
	for _, n := range l {
		r := usual
		*field(&r) = n
		out = append(out, r)
	}
	return out
}

func id(r *api.Reply) *int        { return &r.Id }
func from(r *api.Reply) *int      { return &r.From }
func to(r *api.Reply) *int        { return &r.To }
func code(r *api.Reply) *int      { return &r.Code }
func threshold(r *api.Reply) *int { return &r.Threshold }
func epoch(r *api.Reply) *int     { return &r.Epoch }
func tier(r *api.Reply) *int      { return &r.Tier }

func join(l ...[]api.Reply) []api.Reply {
	var out []api.Reply
	for _, x := range l {
		out = append(out, x...)
	}
	return out
}

func valid() []api.Reply {
	return join(all(id, 0, 5, 256, api.MaxId), all(from, 0, 2, 7), all(to, -1, 0, 1, 7), all(code, 1, 2, 9, 10), all(threshold, 0, 3, 127, 128),
		all(epoch, 0, 9, api.MaxEpoch), all(tier, 0, 1, 7))
}

func wrong() []api.Reply {
	const least, most = api.MinInt, api.MaxInt
	return join(all(id, -1, api.MaxId+1, least, most), all(from, -1, 8, least, most), all(to, -2, 2, 8, least, most), all(code, -1, 0, 11, least, most),
		all(threshold, -1, 129, least, most), all(epoch, -1, api.MaxEpoch+1, least, most), all(tier, -1, 8, least, most))
}

func TestValidRepliesAreRecovered(t *testing.T) {
	for _, r := range valid() {
		if err := reply.Check(r); err != api.OK {
			t.Errorf("Check(%v): %v", r, err)
		}
		body, err := reply.Put(r)
		if len(body) != 15 || err != api.OK {
			t.Errorf("Put(%v) = %q, %v", r, body, err)
		}
		if got, err := reply.Get(body); got != r || err != api.OK {
			t.Errorf("Get(%q) = %v, %v", body, got, err)
		}
	}
	if body, _ := reply.Put(usual); body != usualBody {
		t.Errorf("Put = %q", body)
	}
	r := api.Reply{Id: 0x010203040506, From: 7, To: 6, Code: 10, Threshold: 8, Epoch: 0x0a0b0c0d, Tier: 5}
	if body, _ := reply.Put(r); body != "\x01\x02\x03\x04\x05\x06\x07\x07\x0a\x08\x0a\x0b\x0c\x0d\x05" {
		t.Errorf("Put = %q", body)
	}
}

func TestWrongRepliesAreRefused(t *testing.T) {
	for _, r := range wrong() {
		if err := reply.Check(r); err != api.ErrArg {
			t.Errorf("Check(%v): %v", r, err)
		}
		if body, err := reply.Put(r); body != "" || err != api.ErrArg {
			t.Errorf("Put(%v) = %q, %v", r, body, err)
		}
	}
}

func TestGetRefuses(t *testing.T) {
	for i := range usualBody {
		if got, err := reply.Get(usualBody[:i]); got != (api.Reply{}) || err != api.ErrShort {
			t.Errorf("%d bytes: %v, %v", i, got, err)
		}
	}
	if _, err := reply.Get("\xff\xff\xff\xff\xff\xff\xff\xff\xff"); err != api.ErrShort {
		t.Errorf("short and wrong: %v", err)
	}
	if got, err := reply.Get(usualBody + "\x00"); got != (api.Reply{}) || err != api.ErrForm {
		t.Errorf("a byte too many: %v, %v", got, err)
	}
	for at, l := range map[int][]byte{6: {8, 255}, 7: {3, 9, 255}, 8: {0, 11, 255}, 9: {129, 255}, 14: {8, 255}} {
		for _, b := range l {
			body := []byte(usualBody)
			body[at] = b
			if got, err := reply.Get(string(body)); got != (api.Reply{}) || err != api.ErrForm {
				t.Errorf("Get(%q) = %v, %v", body, got, err)
			}
		}
	}
}

func TestBodiesThatAreAcceptedAreThoseOfTheirReplies(t *testing.T) {
	for at := range usualBody {
		for b := 0; b < 256; b++ {
			body := []byte(usualBody)
			body[at] = byte(b)
			if r, err := reply.Get(string(body)); err == api.OK {
				if again, err := reply.Put(r); again != string(body) || err != api.OK {
					t.Errorf("%q is read as %v", body, r)
				}
			} else if err != api.ErrForm {
				t.Errorf("Get(%q): %v", body, err)
			}
		}
	}
}

func TestTo(t *testing.T) {
	r := api.Request{Id: 5, From: -9, To: 2, Level: 3, Deadline: 40, Budget: 7}
	if got, want := reply.To(r, 77, -1, api.MaxInt, 99), (api.Reply{Id: 5, From: 2, To: -9, Code: 77, Threshold: -1, Epoch: api.MaxInt, Tier: 99}); got != want {
		t.Errorf("To = %v", got)
	}
}

func TestNames(t *testing.T) {
	names := []string{"good", "refused", "expired", "spent", "evicted", "late", "failed", "cut", "starved", "broken"}
	for i, name := range names {
		if got, ok := reply.Name(i + 1); got != name || !ok {
			t.Errorf("Name(%d) = %q, %v", i+1, got, ok)
		}
		if got, ok := reply.Code(name); got != i+1 || !ok {
			t.Errorf("Code(%q) = %d, %v", name, got, ok)
		}
	}
	for _, n := range []int{0, 11, -1, api.MinInt, api.MaxInt} {
		if got, ok := reply.Name(n); got != "" || ok {
			t.Errorf("Name(%d) = %q, %v", n, got, ok)
		}
	}
	for _, name := range []string{"", "Good", "good ", "dimmed", "-"} {
		if got, ok := reply.Code(name); got != 0 || ok {
			t.Errorf("Code(%q) = %d, %v", name, got, ok)
		}
	}
}
