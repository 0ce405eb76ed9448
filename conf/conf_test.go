package conf_test

import (
	"slices"
	"testing"

	"lockkeeper/api"
	"lockkeeper/conf"
	"lockkeeper/knob"
)

func usual() api.Service {
	return api.Service{
		Workers: 2, Queue: 4, Window: 10, Tiers: 3, Seen: 64, Ttl: 20, Knobs: knob.Usual(8),
		Calls: []api.Call{{To: 1, Tier: 0, Weight: 4, Most: 20}, {To: 3, Tier: 2, Weight: 8, Most: 1}, {To: 2, Tier: 3, Weight: 1, Most: 65535}},
	}
}

func with(change func(x *api.Service)) api.Service {
	x := usual()
	change(&x)
	return x
}

// numbers are a service's numbers, each with the least and the greatest one that it may be.
func numbers() []struct {
	at          func(x *api.Service) *int
	least, most int
} {
	return []struct {
		at          func(x *api.Service) *int
		least, most int
	}{
		{func(x *api.Service) *int { return &x.Workers }, 1, 16}, {func(x *api.Service) *int { return &x.Queue }, 1, 64},
		{func(x *api.Service) *int { return &x.Window }, 1, 64}, {func(x *api.Service) *int { return &x.Seen }, 0, 256},
		{func(x *api.Service) *int { return &x.Ttl }, 0, api.MaxTicks}, {func(x *api.Service) *int { return &x.Tiers }, 3, 7},
		{func(x *api.Service) *int { return &x.Calls[1].Tier }, 0, 3}, {func(x *api.Service) *int { return &x.Calls[1].Weight }, 1, 8},
		{func(x *api.Service) *int { return &x.Calls[1].Most }, 1, 65535}, {func(x *api.Service) *int { return &x.Calls[1].To }, 3, 4},
		{func(x *api.Service) *int { return &x.Knobs.Floor }, 0, 8},
	}
}

func TestCheckOfNumbers(t *testing.T) {
	for i, n := range numbers() {
		for value, want := range map[int]api.Errno{
			n.least: api.OK, n.most: api.OK, n.least - 1: api.ErrConf, n.most + 1: api.ErrConf, api.MinInt: api.ErrConf, api.MaxInt: api.ErrConf,
		} {
			x := with(func(x *api.Service) { *n.at(x) = value })
			if got := conf.Check(x, 0, 5, 8); got != want {
				t.Errorf("number %d is %d: %v", i, value, got)
			}
		}
	}
	if got := conf.Check(with(func(x *api.Service) { x.Tiers, x.Calls = 0, x.Calls[:1] }), 0, 5, 8); got != api.OK {
		t.Errorf("no tiers: %v", got)
	}
	if got := conf.Check(with(func(x *api.Service) { x.Tiers, x.Calls = -1, nil }), 0, 5, 8); got != api.ErrConf {
		t.Errorf("tiers below 0: %v", got)
	}
}

func TestCheckOfServicesAndLevels(t *testing.T) {
	plain := with(func(x *api.Service) { x.Calls = nil })
	for _, c := range []struct {
		self, services, levels int
		want                   api.Errno
	}{
		{0, 1, 8, api.OK}, {7, 8, 128, api.OK}, {0, 0, 8, api.ErrConf}, {0, 9, 8, api.ErrConf}, {1, 1, 8, api.ErrConf}, {-1, 1, 8, api.ErrConf}, {8, 8, 8, api.ErrConf},
		{0, 1, 0, api.ErrConf}, {0, 1, 129, api.ErrConf}, {0, -1, 8, api.ErrConf}, {api.MaxInt, api.MaxInt, 8, api.ErrConf}, {api.MinInt, api.MinInt, 8, api.ErrConf},
	} {
		if got := conf.Check(plain, c.self, c.services, c.levels); got != c.want {
			t.Errorf("Check(.., %d, %d, %d) = %v", c.self, c.services, c.levels, got)
		}
	}
}

func TestCheckOfCalls(t *testing.T) {
	to := func(l ...int) api.Service {
		return with(func(x *api.Service) {
			x.Calls = nil
			for _, n := range l {
				x.Calls = append(x.Calls, api.Call{To: n, Weight: 1, Most: 1})
			}
		})
	}
	for _, c := range []struct {
		x    api.Service
		self int
		want api.Errno
	}{
		{to(), 0, api.OK}, {to(1, 2, 3, 4, 5, 6), 0, api.OK}, {to(1, 2, 3, 4, 5, 6, 7), 0, api.ErrConf}, {to(1, 2, 1), 0, api.ErrConf}, {to(1), 1, api.ErrConf},
		{to(0), 1, api.OK}, {to(8), 0, api.ErrConf}, {to(-1), 0, api.ErrConf}, {to(7), 0, api.OK},
	} {
		if got := conf.Check(c.x, c.self, 8, 8); got != c.want {
			t.Errorf("calls %v of %d: %v", c.x.Calls, c.self, got)
		}
	}
}

func TestRequiredAndOptional(t *testing.T) {
	x := usual()
	x.Calls = append(x.Calls, api.Call{To: 9}, api.Call{To: 8, Tier: -1})
	if got := conf.Required(x); !slices.Equal(got, []api.Call{x.Calls[0], x.Calls[3]}) {
		t.Errorf("Required = %v", got)
	}
	if got := conf.Optional(x); !slices.Equal(got, []api.Call{x.Calls[1], x.Calls[2], x.Calls[4]}) {
		t.Errorf("Optional = %v", got)
	}
	if len(conf.Required(api.Service{})) != 0 || len(conf.Optional(api.Service{})) != 0 {
		t.Error("calls of none")
	}
	conf.Required(x)[0].To = 77
	conf.Optional(x)[0].To = 77
	if x.Calls[0].To != 1 || x.Calls[1].To != 3 {
		t.Error("shared with the argument")
	}
}

const head = "service workers=2 queue=4 window=10 tiers=3 seen=64 ttl=20 low=1 high=4 cut=10 lift=5 floor=1 turn=3 dwell=2"

func TestLines(t *testing.T) {
	want := []string{head, "call to=1 tier=0 weight=4 most=20", "call to=3 tier=2 weight=8 most=1", "call to=2 tier=3 weight=1 most=65535"}
	if got := conf.Lines(usual()); !slices.Equal(got, want) {
		t.Errorf("Lines = %q", got)
	}
	for _, x := range []api.Service{usual(), {}, {Workers: -1, Ttl: api.MaxInt, Knobs: api.Knobs{Low: api.MinInt, Dwell: 9}, Calls: []api.Call{{To: -7}}}} {
		lines := conf.Lines(x)
		again, ok := conf.Head(lines[0])
		if !ok || len(again.Calls) != 0 {
			t.Errorf("Head(%q) = %v, %v", lines[0], again, ok)
		}
		for _, line := range lines[1:] {
			c, ok := conf.Call(line)
			if !ok {
				t.Errorf("Call(%q)", line)
			}
			again.Calls = append(again.Calls, c)
		}
		if !conf.Same(again, x) {
			t.Errorf("%v is read as %v", x, again)
		}
	}
}

func TestHeadAndCallReadWords(t *testing.T) {
	x := usual()
	x.Calls = nil
	if got, ok := conf.Head("\t service  workers=2 queue=4 window=10 tiers=3 seen=64 ttl=20 low=1 high=4 cut=10 lift=5 floor=1 turn=3 dwell=2#x"); !ok || !conf.Same(got, x) {
		t.Errorf("Head = %v, %v", got, ok)
	}
	if got, ok := conf.Call(" call to=1\ttier=-2 weight=4 most=20 # x"); !ok || got != (api.Call{To: 1, Tier: -2, Weight: 4, Most: 20}) {
		t.Errorf("Call = %v, %v", got, ok)
	}
	for _, line := range []string{"", "service", head + " to=1", head[:len(head)-8], "services" + head[7:], "#" + head, "call to=1 tier=0 weight=4 most=20", head + "0=", "service workers=02" + head[17:]} {
		if got, ok := conf.Head(line); ok || !conf.Same(got, api.Service{}) {
			t.Errorf("Head(%q) = %v, %v", line, got, ok)
		}
	}
	for _, line := range []string{"", "call", "call to=1 tier=0 weight=4", "call to=1 tier=0 weight=4 most=20 x", "call tier=0 to=1 weight=4 most=20", "Call to=1 tier=0 weight=4 most=20", "call to=1 tier=+0 weight=4 most=20", head} {
		if got, ok := conf.Call(line); ok || got != (api.Call{}) {
			t.Errorf("Call(%q) = %v, %v", line, got, ok)
		}
	}
}

func TestRow(t *testing.T) {
	for _, c := range []struct {
		word  string
		names []string
		l     []int
		want  string
	}{
		{"w", nil, nil, "w"}, {"w", []string{"a", "b"}, []int{1, -2}, "w a=1 b=-2"}, {"w", []string{"a", "b"}, []int{1}, "w a=1"},
		{"w", []string{"a"}, []int{1, 2}, "w a=1"}, {"w", nil, []int{1}, "w"}, {"", []string{""}, []int{0}, " =0"},
	} {
		if got := conf.Row(c.word, c.names, c.l...); got != c.want {
			t.Errorf("Row(%q, %q, %v) = %q", c.word, c.names, c.l, got)
		}
	}
}

func TestNumbers(t *testing.T) {
	for _, c := range []struct {
		line, word string
		names      []string
		want       []int
		ok         bool
	}{
		{"w", "w", nil, nil, true}, {"", "w", nil, nil, false}, {"", "", nil, nil, false}, {"v", "w", nil, nil, false}, {"w a=1 b=-2", "w", []string{"a", "b"}, []int{1, -2}, true},
		{" w\ta=1  b=-2 # c=3", "w", []string{"a", "b"}, []int{1, -2}, true}, {"w b=1 a=2", "w", []string{"a", "b"}, nil, false}, {"w a=1", "w", []string{"a", "b"}, nil, false},
		{"w a=1 b=2 c=3", "w", []string{"a", "b"}, nil, false}, {"w a=1 b=", "w", []string{"a", "b"}, nil, false}, {"w a=1 b=x", "w", []string{"a", "b"}, nil, false},
		{"w a=1 b", "w", []string{"a", "b"}, nil, false}, {"w a==1", "w", []string{"a="}, []int{1}, true}, {"w =5", "w", []string{""}, []int{5}, true}, {"w a=01", "w", []string{"a"}, nil, false},
	} {
		if got, ok := conf.Numbers(c.line, c.word, c.names...); ok != c.ok || !slices.Equal(got, c.want) {
			t.Errorf("Numbers(%q, %q, %q) = %v, %v", c.line, c.word, c.names, got, ok)
		}
	}
}

func TestSame(t *testing.T) {
	if !conf.Same(usual(), usual()) || !conf.Same(api.Service{}, api.Service{Calls: []api.Call{}}) {
		t.Error("the same services")
	}
	changes := numbers()
	for i, n := range changes {
		if conf.Same(usual(), with(func(x *api.Service) { *n.at(x) += 100 })) {
			t.Errorf("number %d does not count", i)
		}
	}
	for i := range usual().Calls {
		if conf.Same(usual(), with(func(x *api.Service) { x.Calls = slices.Delete(x.Calls, i, i+1) })) {
			t.Errorf("call %d does not count", i)
		}
	}
	if conf.Same(usual(), with(func(x *api.Service) { slices.Reverse(x.Calls) })) {
		t.Error("the order of calls does not count")
	}
}
