package site_test

import (
	"strings"
	"testing"

	"lockkeeper/api"
	"lockkeeper/knob"
	"lockkeeper/site"
)

func usual(t *testing.T, services int) api.Site {
	t.Helper()
	s, err := site.Usual(services)
	if err != api.OK {
		t.Fatalf("Usual(%d): %v", services, err)
	}
	return s
}

func with(t *testing.T, change func(s *api.Site)) api.Site {
	t.Helper()
	s := usual(t, 3)
	change(&s)
	return s
}

func TestUsual(t *testing.T) {
	for n := 1; n <= 8; n++ {
		s := usual(t, n)
		if s.Business != 2 || s.Classes != 4 || s.Rotate != 1000 || s.Key != 1 || len(s.Services) != n {
			t.Errorf("Usual(%d) = %v", n, s)
		}
		for i, x := range s.Services {
			if x.Workers != 1 || x.Queue != 4 || x.Window != 10 || x.Tiers != 1 || x.Seen != 64 || x.Ttl != 20 || x.Knobs != knob.Usual(8) {
				t.Errorf("service %d: %v", i, x)
			}
			if i == n-1 && len(x.Calls) != 0 || i < n-1 && (len(x.Calls) != 1 || x.Calls[0] != api.Call{To: i + 1, Tier: 0, Weight: 6, Most: 20}) {
				t.Errorf("calls of %d: %v", i, x.Calls)
			}
		}
		if err := site.Check(s); err != api.OK {
			t.Errorf("Check(Usual(%d)): %v", n, err)
		}
		if site.Levels(s) != 8 {
			t.Errorf("%d levels", site.Levels(s))
		}
	}
	for _, n := range []int{0, -1, 9, api.MinInt, api.MaxInt} {
		if s, err := site.Usual(n); err != api.ErrArg || !site.Same(s, api.Site{}) {
			t.Errorf("Usual(%d) = %v, %v", n, s, err)
		}
	}
}

func TestCheck(t *testing.T) {
	loop := func(s *api.Site) { s.Services[2].Calls = []api.Call{{To: 0, Weight: 1, Most: 1}} }
	for name, c := range map[string]struct {
		change func(s *api.Site)
		want   api.Errno
	}{
		"usual": {func(s *api.Site) {}, api.OK}, "no businesses": {func(s *api.Site) { s.Business = 0 }, api.ErrConf}, "many businesses": {func(s *api.Site) { s.Business = 9 }, api.ErrConf},
		"no classes": {func(s *api.Site) { s.Classes = 0 }, api.ErrConf}, "many classes": {func(s *api.Site) { s.Classes = 17 }, api.ErrConf},
		"all levels": {func(s *api.Site) { s.Business, s.Classes = 8, 16 }, api.OK}, "no period": {func(s *api.Site) { s.Rotate = 0 }, api.ErrConf},
		"a long period": {func(s *api.Site) { s.Rotate = api.MaxTicks + 1 }, api.ErrConf}, "no services": {func(s *api.Site) { s.Services = nil }, api.ErrConf},
		"many services":     {func(s *api.Site) { s.Services = append(s.Services, make([]api.Service, 6)...) }, api.ErrConf},
		"a wrong service":   {func(s *api.Site) { s.Services[2].Workers = 0 }, api.ErrConf},
		"a floor too high":  {func(s *api.Site) { s.Services[0].Knobs.Floor = 9 }, api.ErrConf},
		"a call of oneself": {func(s *api.Site) { s.Services[0].Calls[0].To = 0 }, api.ErrConf}, "a call of nobody": {func(s *api.Site) { s.Services[0].Calls[0].To = 3 }, api.ErrConf},
		"a cycle": {loop, api.ErrLoop}, "a cycle, and more": {func(s *api.Site) { loop(s); s.Services[2].Ttl = -1 }, api.ErrConf},
	} {
		if got := site.Check(with(t, c.change)); got != c.want {
			t.Errorf("%s: %v", name, got)
		}
	}
	if got := site.Check(api.Site{}); got != api.ErrConf {
		t.Errorf("a zero site: %v", got)
	}
}

func TestLevels(t *testing.T) {
	for _, c := range []struct{ business, classes, want int }{{2, 4, 8}, {8, 16, 128}, {0, 5, 0}, {-2, 5, 0}, {api.MaxInt, 2, api.MaxCount}, {3, -1, 0}} {
		if got := site.Levels(api.Site{Business: c.business, Classes: c.classes}); got != c.want {
			t.Errorf("Levels of %d and %d = %d", c.business, c.classes, got)
		}
	}
}

const (
	head    = "site business=2 classes=4 rotate=1000 key=0000000000000001\n"
	service = "service workers=1 queue=4 window=10 tiers=1 seen=64 ttl=20 low=1 high=4 cut=10 lift=5 floor=1 turn=3 dwell=2\n"
)

func TestText(t *testing.T) {
	want := head + service + "call to=1 tier=0 weight=6 most=20\n" + service + "call to=2 tier=0 weight=6 most=20\n" + service
	if got := site.Text(usual(t, 3)); got != want {
		t.Errorf("Text = %q", got)
	}
	if got := site.Text(api.Site{Key: 1<<64 - 1, Business: -1}); got != "site business=-1 classes=0 rotate=0 key=ffffffffffffffff\n" {
		t.Errorf("Text = %q", got)
	}
}

func TestSitesAreRecoveredFromTheirText(t *testing.T) {
	sites := []api.Site{{}, {Business: api.MinInt, Classes: api.MaxInt, Rotate: -5, Key: 1 << 63}, usual(t, 1), usual(t, 8)}
	many := usual(t, 2)
	many.Services[0].Calls = append(many.Services[0].Calls, api.Call{To: -3, Tier: 9}, api.Call{To: 1, Weight: 77})
	many.Services = append(many.Services, many.Services...)
	many.Services = append(many.Services, many.Services...)
	many.Services = append(many.Services, many.Services...)
	for i, s := range append(sites, many) {
		text := site.Text(s)
		if got, at, err := site.Parse(text); !site.Same(got, s) || at != 0 || err != api.OK {
			t.Errorf("site %d: %v, %d, %v", i, got, at, err)
		}
		odd := "\n# a site\n" + strings.ReplaceAll(strings.ReplaceAll(text, " ", " \t "), "\n", "  # so\n\n")
		if got, at, err := site.Parse(odd); !site.Same(got, s) || at != 0 || err != api.OK {
			t.Errorf("site %d with blanks and comments: %v, %d, %v", i, got, at, err)
		}
		if got, at, err := site.Parse(strings.TrimSuffix(text, "\n")); !site.Same(got, s) || at != 0 || err != api.OK {
			t.Errorf("site %d without the last line feed: %v, %d, %v", i, got, at, err)
		}
	}
}

func TestParseTellsTheLineThatIsWrong(t *testing.T) {
	const call = "call to=1 tier=0 weight=6 most=20\n"
	for _, c := range []struct {
		text string
		at   int
	}{
		{"", 0}, {"\n\n", 2}, {"# nothing\n \n\t#", 3}, {service, 0}, {"\n" + service, 1}, {head + call, 1}, {head + "\n\n" + call + service, 3}, {head + head, 1},
		{head + service + "tick\n", 2}, {head + service + call + head, 3}, {head + service + call + "\n#\n" + "go\n", 5}, {call, 0},
		{"site business=2 classes=4 rotate=1000 key=1\n", 0}, {"site business=2 classes=4 rotate=1000\n", 0}, {"site business=2 classes=4 rotate=1000 key=000000000000000G\n", 0},
		{"site business=02 classes=4 rotate=1000 key=0000000000000001\n", 0}, {"site classes=4 business=2 rotate=1000 key=0000000000000001\n", 0},
		{"Site business=2 classes=4 rotate=1000 key=0000000000000001\n", 0}, {strings.TrimSpace(head) + " more=1\n", 0}, {"site business=2 classes=4 rotate=1000 yek=0000000000000001\n", 0},
		{"site business=2 classes=4 rotate=1000 0000000000000001\n", 0}, {"site key=0000000000000001\n", 0},
	} {
		if s, at, err := site.Parse(c.text); !site.Same(s, api.Site{}) || at != c.at || err != api.ErrForm {
			t.Errorf("Parse(%q) = %v, %d, %v", c.text, s, at, err)
		}
	}
}

func TestParseOfLongTexts(t *testing.T) {
	fill := head + strings.Repeat(" ", api.MaxText-len(head))
	if s, at, err := site.Parse(fill); s.Business != 2 || at != 0 || err != api.OK {
		t.Errorf("as long as it may be: %d, %v", at, err)
	}
	if s, at, err := site.Parse(fill + " "); !site.Same(s, api.Site{}) || at != 0 || err != api.ErrMany {
		t.Errorf("too long: %d, %v", at, err)
	}
	if _, at, err := site.Parse("\nwrong\n" + fill); at != 0 || err != api.ErrMany {
		t.Errorf("too long and wrong: %d, %v", at, err)
	}
}

func TestSame(t *testing.T) {
	for name, change := range map[string]func(s *api.Site){
		"business": func(s *api.Site) { s.Business++ }, "classes": func(s *api.Site) { s.Classes++ }, "rotate": func(s *api.Site) { s.Rotate++ }, "key": func(s *api.Site) { s.Key++ },
		"a service's number": func(s *api.Site) { s.Services[1].Ttl++ }, "a call": func(s *api.Site) { s.Services[1].Calls[0].Most++ }, "one less": func(s *api.Site) { s.Services = s.Services[:2] },
	} {
		if site.Same(usual(t, 3), with(t, change)) {
			t.Errorf("%s does not count", name)
		}
	}
	if !site.Same(usual(t, 3), usual(t, 3)) || !site.Same(api.Site{}, api.Site{Services: []api.Service{}}) {
		t.Error("the same sites")
	}
}
