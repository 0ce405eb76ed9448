package frame_test

import (
	"testing"

	"lockkeeper/api"
	"lockkeeper/frame"
	"lockkeeper/head"
	"lockkeeper/push"
	"lockkeeper/reply"
	"lockkeeper/request"
)

var (
	asks  = api.Request{Id: 5, From: -1, To: 2, Level: 3, Deadline: 40, Budget: 7}
	tells = api.Reply{Id: 5, From: 2, To: -1, Code: 1, Threshold: 3, Epoch: 9, Tier: 1}
	sets  = api.Push{To: 2, Version: 7, Knobs: api.Knobs{Low: 1, High: 4, Cut: 10, Lift: 5, Floor: 1, Turn: 3, Dwell: 2}}
	whole = []api.Frame{{Kind: 1, Request: asks}, {Kind: 2, Reply: tells}, {Kind: 3, Push: sets}}
)

func TestFramesAreRecovered(t *testing.T) {
	requestBody, _ := request.Put(asks)
	replyBody, _ := reply.Put(tells)
	pushBody, _ := push.Put(sets)
	for i, body := range []string{requestBody, replyBody, pushBody} {
		want, _ := head.Put(i+1, body)
		s, err := frame.Encode(whole[i])
		if s != want || err != api.OK {
			t.Errorf("Encode(%v) = %q, %v", whole[i], s, err)
		}
		if f, err := frame.Decode(s); f != whole[i] || err != api.OK {
			t.Errorf("Decode(%q) = %v, %v", s, f, err)
		}
	}
}

func TestEncodeRefuses(t *testing.T) {
	bad := asks
	bad.To = 9
	for _, c := range []struct {
		f    api.Frame
		want api.Errno
	}{
		{api.Frame{}, api.ErrKind}, {api.Frame{Kind: 4}, api.ErrKind}, {api.Frame{Kind: -1, Request: asks}, api.ErrKind}, {api.Frame{Kind: api.MaxInt, Push: sets}, api.ErrKind},
		{api.Frame{Kind: 0, Request: bad, Reply: tells}, api.ErrKind},
		{api.Frame{Kind: 1}, api.ErrArg}, {api.Frame{Kind: 2}, api.ErrArg}, {api.Frame{Kind: 1, Request: bad}, api.ErrArg}, {api.Frame{Kind: 2, Request: asks}, api.ErrArg},
		{api.Frame{Kind: 1, Request: asks, Reply: api.Reply{Tier: 1}}, api.ErrArg}, {api.Frame{Kind: 1, Request: asks, Push: api.Push{Version: 1}}, api.ErrArg},
		{api.Frame{Kind: 2, Reply: tells, Request: api.Request{Budget: 1}}, api.ErrArg}, {api.Frame{Kind: 2, Reply: tells, Push: sets}, api.ErrArg},
		{api.Frame{Kind: 3, Push: sets, Request: asks}, api.ErrArg}, {api.Frame{Kind: 3, Push: sets, Reply: tells}, api.ErrArg},
		{api.Frame{Kind: 3, Push: api.Push{To: 8}}, api.ErrArg},
	} {
		if s, err := frame.Encode(c.f); s != "" || err != c.want {
			t.Errorf("Encode(%v) = %q, %v; want %v", c.f, s, err, c.want)
		}
	}
	if s, err := frame.Encode(api.Frame{Kind: 3}); s == "" || err != api.OK {
		t.Errorf("a push of zeros: %q, %v", s, err)
	}
}

func TestDecodeRefuses(t *testing.T) {
	good, _ := frame.Encode(whole[0])
	for i := range good {
		if f, err := frame.Decode(good[:i]); f != (api.Frame{}) || err != api.ErrShort {
			t.Errorf("%d bytes: %v, %v", i, f, err)
		}
	}
	for s, want := range map[string]api.Errno{
		"\xb6": api.ErrForm, "\xb7\x01\x04": api.ErrKind, "\xb7\x01\x01\xff": api.ErrMany, good + "x": api.ErrForm, good[:len(good)-1] + "\x00": api.ErrSum,
	} {
		if f, err := frame.Decode(s); f != (api.Frame{}) || err != want {
			t.Errorf("Decode(%q) = %v, %v", s, f, err)
		}
	}
	// A body of another kind, or of no request, is of another form, also if it is too short.
	requestBody, _ := request.Put(asks)
	replyBody, _ := reply.Put(tells)
	for kind := 1; kind <= 3; kind++ {
		for _, body := range []string{"", "x", requestBody + "x", replyBody + "x", requestBody[:13], "\xff" + requestBody[:13]} {
			s, _ := head.Put(kind, body)
			if f, err := frame.Decode(s); f != (api.Frame{}) || err != api.ErrForm {
				t.Errorf("kind %d, body %q: %v, %v", kind, body, f, err)
			}
		}
	}
}

func TestBytesThatAreAcceptedAreThoseOfTheirFrames(t *testing.T) {
	for _, f := range whole {
		s, _ := frame.Encode(f)
		_, body, _ := head.Get(s)
		for at := range body {
			for _, b := range []byte{0, 1, 8, 128, 255} {
				other := []byte(body)
				other[at] = b
				s, _ := head.Put(f.Kind, string(other))
				if g, err := frame.Decode(s); err == api.OK {
					if again, err := frame.Encode(g); again != s || err != api.OK {
						t.Errorf("%q is read as %v", s, g)
					}
				}
			}
		}
	}
}

func TestPartsDependOnTheKindOnly(t *testing.T) {
	for kind := -1; kind <= 5; kind++ {
		f := api.Frame{Kind: kind, Request: asks, Reply: tells, Push: sets}
		if r, ok := frame.Request(f); ok != (kind == 1) || ok && r != asks || !ok && r != (api.Request{}) {
			t.Errorf("kind %d: Request = %v, %v", kind, r, ok)
		}
		if r, ok := frame.Reply(f); ok != (kind == 2) || ok && r != tells || !ok && r != (api.Reply{}) {
			t.Errorf("kind %d: Reply = %v, %v", kind, r, ok)
		}
		if p, ok := frame.Push(f); ok != (kind == 3) || ok && p != sets || !ok && p != (api.Push{}) {
			t.Errorf("kind %d: Push = %v, %v", kind, p, ok)
		}
	}
}

func TestEnds(t *testing.T) {
	for _, c := range []struct {
		f        api.Frame
		from, to int
	}{
		{whole[0], -1, 2}, {whole[1], 2, -1}, {whole[2], -1, 2}, {api.Frame{}, -1, -1}, {api.Frame{Kind: 4, Request: asks}, -1, -1},
		{api.Frame{Kind: 1, Request: api.Request{From: 77, To: -5}, Reply: tells}, 77, -5}, {api.Frame{Kind: 2, Reply: api.Reply{From: 8, To: 9}}, 8, 9},
		{api.Frame{Kind: 3, Push: api.Push{To: 99}}, -1, 99},
	} {
		if from, to := frame.Ends(c.f); from != c.from || to != c.to {
			t.Errorf("Ends(%v) = %d, %d", c.f, from, to)
		}
	}
}

func TestText(t *testing.T) {
	for _, c := range []struct {
		f    api.Frame
		want string
	}{
		{whole[0], "request 5 from client to 2 level 3 until 40 wait 7"},
		{whole[1], "reply 5 from 2 to client good threshold 3 epoch 9 tier 1"},
		{whole[2], "push to 2 version 7 low=1 high=4 cut=10 lift=5 floor=1 turn=3 dwell=2"},
		{api.Frame{Kind: 1, Request: api.Request{Id: -5, From: -2, To: -1, Level: api.MinInt}, Reply: tells}, "request -5 from -2 to client level -9223372036854775808 until 0 wait 0"},
		{api.Frame{Kind: 2, Reply: api.Reply{Code: 10}}, "reply 0 from 0 to 0 broken threshold 0 epoch 0 tier 0"},
		{api.Frame{Kind: 2, Reply: api.Reply{Code: 11}}, "reply 0 from 0 to 0 - threshold 0 epoch 0 tier 0"},
		{api.Frame{Kind: 2}, "reply 0 from 0 to 0 - threshold 0 epoch 0 tier 0"},
		{api.Frame{Kind: 3, Push: api.Push{To: -1}}, "push to client version 0 low=0 high=0 cut=0 lift=0 floor=0 turn=0 dwell=0"},
		{api.Frame{}, ""}, {api.Frame{Kind: 4, Request: asks}, ""}, {api.Frame{Kind: -1}, ""},
	} {
		if got := frame.Text(c.f); got != c.want {
			t.Errorf("Text(%v) = %q", c.f, got)
		}
	}
}

func TestWho(t *testing.T) {
	for n, want := range map[int]string{-1: "client", 0: "0", 7: "7", 8: "8", -2: "-2", api.MaxInt: "9223372036854775807"} {
		if got := frame.Who(n); got != want {
			t.Errorf("Who(%d) = %q", n, got)
		}
	}
}
