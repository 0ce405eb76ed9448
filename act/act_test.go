package act_test

import (
	"slices"
	"strings"
	"testing"

	"lockkeeper/act"
	"lockkeeper/api"
)

var knobs = api.Knobs{Low: 1, High: 4, Cut: 10, Lift: 5, Floor: 1, Turn: 3, Dwell: 2}

// samples are acts with their lines.
func samples() map[string]api.Act {
	return map[string]api.Act{
		"ask 0 1 77 30 5": {Kind: api.ActAsk, S: 0, Business: 1, User: 77, Ttl: 30, Budget: 5},
		"ask -1 -2 -3 9223372036854775807 -9223372036854775808": {Kind: api.ActAsk, S: -1, Business: -2, User: -3, Ttl: api.MaxInt, Budget: api.MinInt},
		"ask 0 0 0 0 0":       {Kind: api.ActAsk},
		"tick":                {Kind: api.ActTick},
		"deliver client 0 0":  {Kind: api.ActDeliver, From: -1, S: 0, N: 0},
		"deliver 1 client 63": {Kind: api.ActDeliver, From: 1, S: -1, N: 63},
		"deliver -2 77 -1":    {Kind: api.ActDeliver, From: -2, S: 77, N: -1},
		"drop 0 1 2":          {Kind: api.ActDrop, From: 0, S: 1, N: 2},
		"twin client 7 9":     {Kind: api.ActTwin, From: -1, S: 7, N: 9},
		"done 3 5":            {Kind: api.ActDone, S: 3, Id: 5},
		"done -1 -5":          {Kind: api.ActDone, S: -1, Id: -5},
		"fail 3 5":            {Kind: api.ActFail, S: 3, Id: 5},
		"restart 2":           {Kind: api.ActRestart, S: 2},
		"push 2 7 low=1 high=4 cut=10 lift=5 floor=1 turn=3 dwell=2":    {Kind: api.ActPush, S: 2, Version: 7, Knobs: knobs},
		"push -1 -7 low=-1 high=0 cut=0 lift=0 floor=0 turn=0 dwell=-9": {Kind: api.ActPush, S: -1, Version: -7, Knobs: api.Knobs{Low: -1, Dwell: -9}},
		"raw 1 client b7":          {Kind: api.ActRaw, From: 1, S: -1, Bytes: "\xb7"},
		"raw client 0 -":           {Kind: api.ActRaw, From: -1, S: 0},
		"raw 0 1 00ff1a2d0a23e28":  {},
		"raw 0 1 00ff1a2d0a23e282": {Kind: api.ActRaw, From: 0, S: 1, Bytes: "\x00\xff\x1a-\n#\xe2\x82"},
	}
}

func TestLinesAndActs(t *testing.T) {
	for line, a := range samples() {
		if a.Kind == 0 {
			continue
		}
		if err := act.Check(a); err != api.OK {
			t.Errorf("Check(%v): %v", a, err)
		}
		if got, err := act.Line(a); got != line || err != api.OK {
			t.Errorf("Line(%v) = %q, %v; want %q", a, got, err, line)
		}
		if got, err := act.Parse(line); got != a || err != api.OK {
			t.Errorf("Parse(%q) = %v, %v", line, got, err)
		}
		if got, err := act.Parse("\t " + strings.ReplaceAll(line, " ", " \t ") + " # " + line); got != a || err != api.OK {
			t.Errorf("Parse(%q) with blanks and a comment = %v, %v", line, got, err)
		}
		if got, err := act.Parse(line + " 0"); got != (api.Act{}) || err != api.ErrForm {
			t.Errorf("Parse(%q) with a word more = %v, %v", line, got, err)
		}
		if i := strings.LastIndex(line, " "); i >= 0 {
			if got, err := act.Parse(line[:i]); got != (api.Act{}) || err != api.ErrForm {
				t.Errorf("Parse(%q) = %v, %v", line[:i], got, err)
			}
		}
	}
}

func TestParseRefuses(t *testing.T) {
	for _, line := range []string{
		"", " ", "#tick", "Tick", "ticks", "go", "ask", "ask 0 1 77 30", "ask client 1 77 30 5", "ask 00 1 77 30 5", "ask 0 1 77 30 x", "ask 0 1 77 30 9223372036854775808",
		"deliver -1 0 0", "deliver 0 -1 0", "deliver client client x", "deliver Client 0 0", "deliver 0 0 client", "deliver 01 0 0", "done client 5", "restart client", "restart",
		"push 2 7", "push 2 7 low=1 high=4 cut=10 lift=5 floor=1 turn=3", "push 2 7 high=4 low=1 cut=10 lift=5 floor=1 turn=3 dwell=2", "push client 7 low=1 high=4 cut=10 lift=5 floor=1 turn=3 dwell=2",
		"push 2 7 low=01 high=4 cut=10 lift=5 floor=1 turn=3 dwell=2", "raw 1 client", "raw 1 client b", "raw 1 client B7", "raw 1 client b7a", "raw 1 client b7 -", "raw 1 client --", "raw 1 client é",
		"raw 1 client 0x", "raw -1 0 b7", "raw 0 1 00ff1a2d0a23e28",
	} {
		if got, err := act.Parse(line); got != (api.Act{}) || err != api.ErrForm {
			t.Errorf("Parse(%q) = %v, %v", line, got, err)
		}
	}
}

// fields are all fields of an act, so that each can be set.
func fields() []func(a *api.Act) {
	return []func(a *api.Act){
		func(a *api.Act) { a.S = 1 }, func(a *api.Act) { a.From = 1 }, func(a *api.Act) { a.N = 1 }, func(a *api.Act) { a.Id = 1 }, func(a *api.Act) { a.Business = 1 },
		func(a *api.Act) { a.User = 1 }, func(a *api.Act) { a.Ttl = 1 }, func(a *api.Act) { a.Budget = 1 }, func(a *api.Act) { a.Version = 1 },
		func(a *api.Act) { a.Knobs.Dwell = 1 }, func(a *api.Act) { a.Bytes = "\x00" },
	}
}

func TestCheckExaminesTheFieldsThatAreNotUsed(t *testing.T) {
	const s, from, n, id, business, user, ttl, budget, version, settings, bytes = 0, 1, 2, 3, 4, 5, 6, 7, 8, 9, 10
	uses := map[int][]int{
		1: {s, business, user, ttl, budget}, 2: nil, 3: {from, s, n}, 4: {from, s, n}, 5: {from, s, n}, 6: {s, id}, 7: {s, id}, 8: {s}, 9: {s, version, settings}, 10: {from, s, bytes},
	}
	for kind := 1; kind <= 10; kind++ {
		for i, set := range fields() {
			a := api.Act{Kind: kind}
			set(&a)
			want := api.ErrArg
			if slices.Contains(uses[kind], i) {
				want = api.OK
			}
			if got := act.Check(a); got != want {
				t.Errorf("kind %d with field %d: %v", kind, i, got)
			}
			if line, err := act.Line(a); err != want || (line == "") != (want != api.OK) {
				t.Errorf("kind %d with field %d: %q, %v", kind, i, line, err)
			}
		}
	}
	for _, kind := range []int{0, -1, 11, api.MinInt, api.MaxInt} {
		if got := act.Check(api.Act{Kind: kind}); got != api.ErrArg {
			t.Errorf("kind %d: %v", kind, got)
		}
		if line, err := act.Line(api.Act{Kind: kind}); line != "" || err != api.ErrArg {
			t.Errorf("kind %d: %q, %v", kind, line, err)
		}
	}
}

func TestWord(t *testing.T) {
	for i, word := range []string{"ask", "tick", "deliver", "drop", "twin", "done", "fail", "restart", "push", "raw"} {
		if got, ok := act.Word(i + 1); got != word || !ok {
			t.Errorf("Word(%d) = %q, %v", i+1, got, ok)
		}
	}
	for _, kind := range []int{0, 11, -1, api.MinInt, api.MaxInt} {
		if got, ok := act.Word(kind); got != "" || ok {
			t.Errorf("Word(%d) = %q, %v", kind, got, ok)
		}
	}
}

func TestTexts(t *testing.T) {
	l := []api.Act{{Kind: api.ActTick}, {Kind: api.ActDone, S: 1, Id: 5}, {Kind: api.ActRaw, From: -1, Bytes: "\n"}}
	const want = "tick\ndone 1 5\nraw client 0 0a\n"
	if got, err := act.Text(l...); got != want || err != api.OK {
		t.Errorf("Text = %q, %v", got, err)
	}
	for _, text := range []string{want, "\n# first\n tick # now\n\n" + "done\t1 5\n\n\nraw client 0 0a"} {
		if got, at, err := act.ParseAll(text); !slices.Equal(got, l) || at != 0 || err != api.OK {
			t.Errorf("ParseAll(%q) = %v, %d, %v", text, got, at, err)
		}
	}
	if got, err := act.Text(); got != "" || err != api.OK {
		t.Errorf("Text of none = %q, %v", got, err)
	}
	if got, at, err := act.ParseAll("# nothing\n\n"); len(got) != 0 || at != 0 || err != api.OK {
		t.Errorf("ParseAll of none = %v, %d, %v", got, at, err)
	}
	if got, err := act.Text(l[0], api.Act{Kind: 2, S: 1}, api.Act{}); got != "" || err != api.ErrArg {
		t.Errorf("Text of a wrong act = %q, %v", got, err)
	}
	for text, want := range map[string]int{"x": 0, "tick\n\n#\ntick 1\nx\n": 3, "tick\ntick\nsite\n": 2} {
		if got, at, err := act.ParseAll(text); len(got) != 0 || at != want || err != api.ErrForm {
			t.Errorf("ParseAll(%q) = %v, %d, %v", text, got, at, err)
		}
	}
}

func TestScriptsHaveAnEnd(t *testing.T) {
	l := make([]api.Act, 4001)
	for i := range l {
		l[i].Kind = api.ActTick
	}
	text, err := act.Text(l[:4000]...)
	if err != api.OK || text != strings.Repeat("tick\n", 4000) {
		t.Fatalf("Text of 4000: %v", err)
	}
	if got, at, err := act.ParseAll(text); !slices.Equal(got, l[:4000]) || at != 0 || err != api.OK {
		t.Errorf("ParseAll of 4000: %d, %d, %v", len(got), at, err)
	}
	if got, err := act.Text(l...); got != "" || err != api.ErrMany {
		t.Errorf("Text of 4001: %v", err)
	}
	l[5].S = 1
	if _, err := act.Text(l...); err != api.ErrMany {
		t.Errorf("Text of 4001, one of them wrong: %v", err)
	}
	if got, at, err := act.ParseAll("\n" + text + "#\ntick\n"); len(got) != 0 || at != 4002 || err != api.ErrMany {
		t.Errorf("ParseAll of 4001: %d, %d, %v", len(got), at, err)
	}
	if _, at, err := act.ParseAll(text + "x\ntick\n"); at != 4000 || err != api.ErrForm {
		t.Errorf("a wrong line beyond: %d, %v", at, err)
	}
}
