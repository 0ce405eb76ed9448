package request_test

import (
	"testing"

	"lockkeeper/api"
	"lockkeeper/request"
)

var usual = api.Request{Id: 5, From: -1, To: 2, Level: 3, Deadline: 40, Budget: 7}

const usualBody = "\x00\x00\x00\x00\x00\x05\x00\x02\x03\x00\x00\x00\x00\x00\x28\x00\x07"

func with(change func(r *api.Request)) api.Request {
	r := usual
	change(&r)
	return r
}

func valid() []api.Request {
	l := []api.Request{usual, {}, {Id: api.MaxId, From: 6, To: 7, Level: 127, Deadline: api.MaxTicks, Budget: 65535}}
	l[1].To = 1
	for _, n := range []int{-1, 0, 1, 3, 7} {
		l = append(l, with(func(r *api.Request) { r.From = n }))
	}
	for _, n := range []int{0, 1, 7} {
		l = append(l, with(func(r *api.Request) { r.To = n }))
	}
	for _, n := range []int{0, 255, 256, 1<<40 + 3, api.MaxId} {
		l = append(l, with(func(r *api.Request) { r.Id = n }))
	}
	return l
}

func wrong() []api.Request {
	var l []api.Request
	for _, n := range []int{-1, api.MaxId + 1, api.MinInt, api.MaxInt} {
		l = append(l, with(func(r *api.Request) { r.Id = n }))
	}
	for _, n := range []int{-2, 8, 2, api.MinInt, api.MaxInt} {
		l = append(l, with(func(r *api.Request) { r.From = n }))
	}
	for _, n := range []int{-1, 8, api.MinInt, api.MaxInt} {
		l = append(l, with(func(r *api.Request) { r.To = n }))
	}
	for _, n := range []int{-1, 128, api.MinInt, api.MaxInt} {
		l = append(l, with(func(r *api.Request) { r.Level = n }))
	}
	for _, n := range []int{-1, api.MaxTicks + 1, api.MinInt, api.MaxInt} {
		l = append(l, with(func(r *api.Request) { r.Deadline = n }))
	}
	for _, n := range []int{-1, 65536, api.MinInt, api.MaxInt} {
		l = append(l, with(func(r *api.Request) { r.Budget = n }))
	}
	return l
}

func TestValidRequestsAreRecovered(t *testing.T) {
	for _, r := range valid() {
		if err := request.Check(r); err != api.OK {
			t.Errorf("Check(%v): %v", r, err)
		}
		body, err := request.Put(r)
		if len(body) != 17 || err != api.OK {
			t.Errorf("Put(%v) = %q, %v", r, body, err)
		}
		if got, err := request.Get(body); got != r || err != api.OK {
			t.Errorf("Get(%q) = %v, %v", body, got, err)
		}
	}
	if body, _ := request.Put(usual); body != usualBody {
		t.Errorf("Put = %q", body)
	}
	all := api.Request{Id: 0x010203040506, From: 4, To: 5, Level: 6, Deadline: 0x0102030405, Budget: 0x0708}
	if body, _ := request.Put(all); body != "\x01\x02\x03\x04\x05\x06\x05\x05\x06\x00\x01\x02\x03\x04\x05\x07\x08" {
		t.Errorf("Put = %q", body)
	}
}

func TestWrongRequestsAreRefused(t *testing.T) {
	for _, r := range wrong() {
		if err := request.Check(r); err != api.ErrArg {
			t.Errorf("Check(%v): %v", r, err)
		}
		if body, err := request.Put(r); body != "" || err != api.ErrArg {
			t.Errorf("Put(%v) = %q, %v", r, body, err)
		}
	}
}

func TestGetRefuses(t *testing.T) {
	for i := range usualBody {
		if got, err := request.Get(usualBody[:i]); got != (api.Request{}) || err != api.ErrShort {
			t.Errorf("%d bytes: %v, %v", i, got, err)
		}
	}
	change := func(at int, b byte) string {
		body := []byte(usualBody)
		body[at] = b
		return string(body)
	}
	for _, body := range []string{
		usualBody + "\x00", usualBody + usualBody, change(6, 9), change(6, 255), change(6, 3), change(7, 8), change(7, 255), change(8, 128), change(8, 255),
		change(9, 255), change(9, 1),
	} {
		if got, err := request.Get(body); got != (api.Request{}) || err != api.ErrForm {
			t.Errorf("Get(%q) = %v, %v", body, got, err)
		}
	}
	// What is short is short, whatever its bytes say.
	if _, err := request.Get("\xff\xff\xff\xff\xff\xff\xff\xff\xff"); err != api.ErrShort {
		t.Errorf("short and wrong: %v", err)
	}
	if got, err := request.Get("\x00\x00\x00\x00\x00\x05\x00\x02\x03\x01\x00\x00\x00\x00\x00\x00\x07"); got.Deadline != 1<<40 && err == api.OK {
		t.Errorf("deadline: %v, %v", got, err)
	}
}

func TestBodiesThatAreAcceptedAreThoseOfTheirRequests(t *testing.T) {
	for at := range usualBody {
		for b := 0; b < 256; b++ {
			body := []byte(usualBody)
			body[at] = byte(b)
			if r, err := request.Get(string(body)); err == api.OK {
				if again, err := request.Put(r); again != string(body) || err != api.OK {
					t.Errorf("%q is read as %v", body, r)
				}
			} else if err != api.ErrForm {
				t.Errorf("Get(%q): %v", body, err)
			}
		}
	}
}

func TestItem(t *testing.T) {
	for _, r := range append(valid(), wrong()...) {
		want := api.Item{Id: r.Id, Level: r.Level, From: r.From, Deadline: r.Deadline, Budget: r.Budget, Since: -8, Seq: 9}
		if got := request.Item(r, -8, 9); got != want {
			t.Errorf("Item(%v) = %v", r, got)
		}
	}
}
