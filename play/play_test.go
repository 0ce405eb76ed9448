package play_test

import (
	"slices"
	"strings"
	"testing"

	"lockkeeper/act"
	"lockkeeper/api"
	"lockkeeper/cluster"
	"lockkeeper/play"
	"lockkeeper/site"
	"lockkeeper/trace"
)

func usual(t *testing.T, services int) api.Site {
	t.Helper()
	s, err := site.Usual(services)
	if err != api.OK {
		t.Fatal(err)
	}
	return s
}

// script are acts of which some are refused.
func script() []api.Act {
	return []api.Act{
		{Kind: api.ActAsk, User: 7, Ttl: 30, Budget: 5}, {Kind: api.ActDeliver, From: -1, S: 0}, {Kind: api.ActDone, Id: 9}, {Kind: api.ActTick}, {Kind: api.ActDone, Id: 1},
		{Kind: api.ActDeliver, From: 0, S: 1}, {Kind: api.ActAsk, S: 7}, {Kind: api.ActAsk, Ttl: -1}, {Kind: api.ActRaw, From: -1, S: 0, Bytes: "\xb7"},
	}
}

func TestText(t *testing.T) {
	s := usual(t, 2)
	acts, _ := act.Text(script()...)
	want := site.Text(s) + "go\n" + acts
	got, err := play.Text(s, script()...)
	if got != want || err != api.OK {
		t.Errorf("Text = %q, %v", got, err)
	}
	for _, text := range []string{want, "\n# it begins\n" + strings.ReplaceAll(strings.ReplaceAll(want, "\n", " #\n\t\n"), " ", "  "), strings.TrimSuffix(want, "\n")} {
		again, l, at, err := play.Parse(text)
		if !site.Same(again, s) || !slices.Equal(l, script()) || at != 0 || err != api.OK {
			t.Errorf("Parse(%q) = %v, %v, %d, %v", text, again, l, at, err)
		}
	}
	if got, err := play.Text(api.Site{}); got != site.Text(api.Site{})+"go\n" || err != api.OK {
		t.Errorf("Text of nothing = %q, %v", got, err)
	}
	if got, err := play.Text(s, api.Act{Kind: 11}); got != "" || err != api.ErrArg {
		t.Errorf("Text of a wrong act = %q, %v", got, err)
	}
	if got, err := play.Text(s, make([]api.Act, 4001)...); got != "" || err != api.ErrMany {
		t.Errorf("Text of many acts: %v", err)
	}
}

const head = "site business=2 classes=4 rotate=1000 key=0000000000000001\n"

func TestParseTellsTheLineThatIsWrong(t *testing.T) {
	ticks := strings.Repeat("tick\n", 4000)
	for _, c := range []struct {
		text string
		at   int
		want api.Errno
	}{
		{"", 0, api.ErrForm}, {head, 1, api.ErrForm}, {head + "#go\n\ngo go\n", 4, api.ErrForm}, {head + "Go\ngoes", 3, api.ErrForm},
		{"go\n", 0, api.ErrForm}, {"\n#\ngo\n", 2, api.ErrForm}, {"\nx\n" + head + "go\nx\n", 1, api.ErrForm}, {head + "\nx\ngo\n", 2, api.ErrForm},
		{head + "go\nx\n", 2, api.ErrForm}, {head + "\n go # now\n\ntick\n\ngo\n", 6, api.ErrForm}, {head + "go\ntick\n" + head, 3, api.ErrForm},
		{head + "go\n" + ticks + "\ntick\n", 4003, api.ErrMany}, {head + strings.Repeat(" ", 20000) + "\ngo\nx", 0, api.ErrMany},
		{head + "go\n" + strings.Repeat(" ", 160001), 0, api.ErrMany}, {strings.Repeat("x", 160001), 0, api.ErrMany},
	} {
		s, l, at, err := play.Parse(c.text)
		if !site.Same(s, api.Site{}) || len(l) != 0 || at != c.at || err != c.want {
			t.Errorf("Parse(%.80q) = %d, %v; want %d, %v", c.text, at, err, c.at, c.want)
		}
		if got, at, err := play.Play(c.text); got != "" || at != c.at || err != c.want {
			t.Errorf("Play(%.80q) = %q, %d, %v", c.text, got, at, err)
		}
	}
	long := head + "go\n" + ticks
	if _, l, at, err := play.Parse(long + strings.Repeat(" ", 160000-len(long))); len(l) != 4000 || at != 0 || err != api.OK {
		t.Errorf("as long as it may be: %d, %d, %v", len(l), at, err)
	}
}

func TestRun(t *testing.T) {
	s := usual(t, 2)
	events, refusals, err := play.Run(s, script()...)
	if err != api.OK || !slices.Equal(refusals, []int{0, 0, 7, 0, 0, 0, 7, 1, 3}) {
		t.Errorf("refusals %v, %v", refusals, err)
	}
	c, _ := cluster.New(s)
	var want []api.Event
	for _, a := range script() {
		more, _ := c.Do(a)
		want = append(want, more...)
	}
	if !slices.Equal(events, want) {
		t.Errorf("events %v, want %v", events, want)
	}
	if events, refusals, err := play.Run(s); len(events) != 0 || len(refusals) != 0 || err != api.OK {
		t.Errorf("no acts: %v, %v, %v", events, refusals, err)
	}
	loop := usual(t, 2)
	loop.Services[1].Calls = []api.Call{{To: 0, Weight: 1, Most: 1}}
	many := make([]api.Act, 4001)
	for _, x := range []struct {
		s    api.Site
		want api.Errno
	}{{api.Site{}, api.ErrConf}, {loop, api.ErrLoop}, {s, api.ErrMany}} {
		if events, refusals, err := play.Run(x.s, many...); len(events) != 0 || len(refusals) != 0 || err != x.want {
			t.Errorf("%d events, %d refusals, %v; want %v", len(events), len(refusals), err, x.want)
		}
	}
	if _, refusals, err := play.Run(s, many[:4000]...); len(refusals) != 4000 || err != api.OK {
		t.Errorf("4000 acts: %v", err)
	}
}

func TestPlay(t *testing.T) {
	s := usual(t, 2)
	text, _ := play.Text(s, script()...)
	events, refusals, _ := play.Run(s, script()...)
	told, _ := trace.Text(events...)
	if got, at, err := play.Play(text); got != told+play.Errors(refusals...) || at != 0 || err != api.OK {
		t.Errorf("Play = %q, %d, %v", got, at, err)
	}
	if got, at, err := play.Play(site.Text(s) + "go\ntick\ndone 0 5\n"); got != "refused 1 7\n" || at != 0 || err != api.OK {
		t.Errorf("Play = %q, %d, %v", got, at, err)
	}
	loop := usual(t, 2)
	loop.Services[1].Calls = []api.Call{{To: 0, Weight: 1, Most: 1}}
	for text, want := range map[string]api.Errno{head + "go\n": api.ErrConf, site.Text(loop) + "go\ntick\n": api.ErrLoop} {
		if got, at, err := play.Play(text); got != "" || at != 0 || err != want {
			t.Errorf("Play(%q) = %q, %d, %v", text, got, at, err)
		}
	}
}

func TestErrors(t *testing.T) {
	for _, c := range []struct {
		l    []int
		want string
	}{{nil, ""}, {[]int{0, 0}, ""}, {[]int{7}, "refused 0 7\n"}, {[]int{0, 12, 0, -3}, "refused 1 12\nrefused 3 -3\n"}} {
		if got := play.Errors(c.l...); got != c.want {
			t.Errorf("Errors(%v) = %q", c.l, got)
		}
	}
}
