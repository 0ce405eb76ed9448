package trace_test

import (
	"slices"
	"strings"
	"testing"

	"lockkeeper/api"
	"lockkeeper/trace"
)

var kindWords = []string{"came", "twice", "start", "end", "call", "skip", "heard", "learn", "close", "push", "restart", "erase", "ask", "answer", "lost"}

var wrongKinds = []int{0, -1, 16, api.MinInt, api.MaxInt}

func TestWord(t *testing.T) {
	for i, word := range kindWords {
		if got, ok := trace.Word(i + 1); got != word || !ok {
			t.Errorf("Word(%d) = %q, %v", i+1, got, ok)
		}
	}
	for _, kind := range wrongKinds {
		if got, ok := trace.Word(kind); got != "" || ok {
			t.Errorf("Word(%d) = %q, %v", kind, got, ok)
		}
	}
}

func samples() map[string]api.Event {
	return map[string]api.Event{
		"at 3 end 0 5 2 4 0":        {Kind: api.EvEnd, Tick: 3, S: 0, Id: 5, Code: 2, A: 4},
		"at 0 came client 0 0 0 0":  {Kind: api.EvCame, S: -1},
		"at -1 lost -2 -3 -4 -5 -6": {Kind: api.EvLost, Tick: -1, S: -2, Id: -3, Code: -4, A: -5, B: -6},
		"at 7 close 1 -1 -1 -1 -1":  {Kind: api.EvClose, Tick: 7, S: 1, Id: -1, Code: -1, A: -1, B: -1},
		"at 9223372036854775807 push 9223372036854775807 -9223372036854775808 1 2 3": {Kind: api.EvPush, Tick: api.MaxInt, S: api.MaxInt, Id: api.MinInt, Code: 1, A: 2, B: 3},
	}
}

func TestLines(t *testing.T) {
	for line, v := range samples() {
		if got, err := trace.Line(v); got != line || err != api.OK {
			t.Errorf("Line(%v) = %q, %v", v, got, err)
		}
		for _, s := range []string{line, "  " + strings.ReplaceAll(line, " ", "\t ") + " # at 1"} {
			if got, err := trace.Parse(s); got != v || err != api.OK {
				t.Errorf("Parse(%q) = %v, %v", s, got, err)
			}
		}
	}
	for i, word := range kindWords {
		v := api.Event{Kind: i + 1, Tick: 1, S: 2, Id: 3, Code: 4, A: 5, B: 6}
		want := "at 1 " + word + " 2 3 4 5 6"
		if got, err := trace.Line(v); got != want || err != api.OK {
			t.Errorf("Line(%v) = %q, %v", v, got, err)
		}
		if got, err := trace.Parse(want); got != v || err != api.OK {
			t.Errorf("Parse(%q) = %v, %v", want, got, err)
		}
	}
	for _, kind := range wrongKinds {
		if got, err := trace.Line(api.Event{Kind: kind}); got != "" || err != api.ErrArg {
			t.Errorf("kind %d: %q, %v", kind, got, err)
		}
	}
}

func TestParseRefuses(t *testing.T) {
	for _, line := range []string{
		"", "#", "at 3 end 0 5 2 4", "at 3 end 0 5 2 4 0 0", "At 3 end 0 5 2 4 0", "in 3 end 0 5 2 4 0", "at 03 end 0 5 2 4 0", "at x end 0 5 2 4 0", "at 3 ends 0 5 2 4 0", "at 3 4 0 5 2 4 0",
		"at 3 end -1 5 2 4 0", "at 3 end Client 5 2 4 0", "at 3 end +0 5 2 4 0", "at 3 end 0 client 2 4 0", "at 3 end 0 05 2 4 0", "at 3 end 0 5 -0 4 0", "at 3 end 0 5 2 4. 0",
		"at 3 end 0 5 2 4 9223372036854775808", "at 3 end 0 5 2 4 #0", "3 at end 0 5 2 4 0",
	} {
		if got, err := trace.Parse(line); got != (api.Event{}) || err != api.ErrForm {
			t.Errorf("Parse(%q) = %v, %v", line, got, err)
		}
	}
}

func TestTexts(t *testing.T) {
	l := []api.Event{{Kind: api.EvAsk, S: 0, Id: 1}, {Kind: api.EvCame, Tick: 1, S: 0, Id: 1, B: 8}, {Kind: api.EvAsk, S: 0, Id: 1}}
	const want = "at 0 ask 0 1 0 0 0\nat 1 came 0 1 0 0 8\nat 0 ask 0 1 0 0 0\n"
	if got, err := trace.Text(l...); got != want || err != api.OK {
		t.Errorf("Text = %q, %v", got, err)
	}
	for _, text := range []string{want, "\n# so\n" + strings.ReplaceAll(want, "\n", "  # now\n\n\t\n")} {
		if got, at, err := trace.ParseAll(text); !slices.Equal(got, l) || at != 0 || err != api.OK {
			t.Errorf("ParseAll(%q) = %v, %d, %v", text, got, at, err)
		}
	}
	if got, err := trace.Text(); got != "" || err != api.OK {
		t.Errorf("Text of none = %q, %v", got, err)
	}
	if got, at, err := trace.ParseAll("\n#\n"); len(got) != 0 || at != 0 || err != api.OK {
		t.Errorf("ParseAll of none = %v, %d, %v", got, at, err)
	}
	if got, err := trace.Text(l[0], api.Event{Kind: 16}, api.Event{}); got != "" || err != api.ErrArg {
		t.Errorf("Text of a wrong event = %q, %v", got, err)
	}
	for text, want := range map[string]int{"x": 0, "at 0 ask 0 1 0 0 0\n\n#\ntick\nx": 3} {
		if got, at, err := trace.ParseAll(text); len(got) != 0 || at != want || err != api.ErrForm {
			t.Errorf("ParseAll(%q) = %v, %d, %v", text, got, at, err)
		}
	}
}

func TestOfAboutAndCount(t *testing.T) {
	var l []api.Event
	for kind := -1; kind <= 17; kind++ {
		for s := -1; s <= 1; s++ {
			for id := 4; id <= 5; id++ {
				l = append(l, api.Event{Kind: kind, S: s, Id: id})
			}
		}
	}
	given := slices.Clone(l)
	var ofOne, about []api.Event
	for _, v := range l {
		if v.S == 1 {
			ofOne = append(ofOne, v)
		}
		if v.Id == 5 && slices.Contains([]int{1, 2, 3, 4, 5, 6, 12, 13, 14}, v.Kind) {
			about = append(about, v)
		}
	}
	if got := trace.Of(1, l...); !slices.Equal(got, ofOne) {
		t.Errorf("Of(1) = %v", got)
	}
	if got := trace.About(5, l...); !slices.Equal(got, about) {
		t.Errorf("About(5) = %v", got)
	}
	if len(trace.Of(7, l...)) != 0 || len(trace.About(7, l...)) != 0 || len(trace.Of(0)) != 0 {
		t.Error("events of nobody")
	}
	trace.Of(1, l...)[0].Id = 77
	if !slices.Equal(l, given) {
		t.Error("shared with the argument")
	}
	want := make([]int, 16)
	for i := range want {
		want[i] = 6
	}
	if got := trace.Count(l...); !slices.Equal(got, want) {
		t.Errorf("Count = %v", got)
	}
	if got := trace.Count(); !slices.Equal(got, make([]int, 16)) {
		t.Errorf("Count of none = %v", got)
	}
	if got := trace.Count(api.Event{Kind: api.MinInt}, api.Event{Kind: api.MaxInt}, api.Event{Kind: 15}); got[15] != 1 || got[0] != 0 {
		t.Errorf("Count = %v", got)
	}
}

func TestTell(t *testing.T) {
	for want, v := range map[string]api.Event{
		"3: 2 decides 5 of level 4 by threshold 8 as waiting":    {Kind: api.EvCame, Tick: 3, S: 2, Id: 5, A: 4, B: 8},
		"3: client decides 5 of level -1 by threshold 0 as good": {Kind: api.EvCame, Tick: 3, S: -1, Id: 5, Code: 1, A: -1},
		"3: 2 decides 5 of level 4 by threshold 8 as refused":    {Kind: api.EvCame, Tick: 3, S: 2, Id: 5, Code: 2, A: 4, B: 8},
		"0: 2 has seen -5":                                       {Kind: api.EvTwice, S: 2, Id: -5, Code: 9, A: 9, B: 9},
		"-1: 2 takes 5 on behind -1 ticks":                       {Kind: api.EvStart, Tick: -1, S: 2, Id: 5, A: -1, B: 9},
		"3: 2 ends 5 as broken":                                  {Kind: api.EvEnd, Tick: 3, S: 2, Id: 5, Code: 10, A: 4},
		"3: 2 ends 5 as dimmed":                                  {Kind: api.EvEnd, Tick: 3, S: 2, Id: 5, Code: 11, A: 4},
		"3: 2 ends 5 as 12":                                      {Kind: api.EvEnd, Tick: 3, S: 2, Id: 5, Code: 12, A: 4},
		"3: 2 ends 5 as -1":                                      {Kind: api.EvEnd, Tick: 3, S: 2, Id: 5, Code: -1, A: 4},
		"3: 2 ends 5 as waiting":                                 {Kind: api.EvEnd, Tick: 3, S: 2, Id: 5, A: 4},
		"3: 2 asks 1 for 5 by -1":                                {Kind: api.EvCall, Tick: 3, S: 2, Id: 5, A: 1, B: -1},
		"3: 2 asks client for 5 by 7":                            {Kind: api.EvCall, Tick: 3, S: 2, Id: 5, A: -1, B: 7},
		"3: 2 leaves 1 out for 5 as dimmed":                      {Kind: api.EvSkip, Tick: 3, S: 2, Id: 5, Code: 11, A: 1},
		"3: 2 leaves client out for 5 as cut":                    {Kind: api.EvSkip, Tick: 3, S: 2, Id: 5, Code: 8, A: -1},
		"3: 2 hears 1 on 5 as late waited":                       {Kind: api.EvHeard, Tick: 3, S: 2, Id: 5, Code: 6, A: 1, B: 1},
		"3: 2 hears client on 5 as good unasked":                 {Kind: api.EvHeard, Tick: 3, S: 2, Id: 5, Code: 1, A: -1},
		"3: 2 hears 1 on 5 as good unasked":                      {Kind: api.EvHeard, Tick: 3, S: 2, Id: 5, Code: 1, A: 1, B: 2},
		"3: 2 learns that 1 lets pass -1 in epoch 9":             {Kind: api.EvLearn, Tick: 3, S: 2, Id: 9, A: 1, B: -1},
		"3: 2 learns that client lets pass 6 in epoch 9":         {Kind: api.EvLearn, Tick: 3, S: 2, Id: 9, A: -1, B: 6},
		"3: 2 ends a window as mid threshold -1 tier -1 epoch 9": {Kind: api.EvClose, Tick: 3, S: 2, Id: 9, A: -1, B: -1},
		"3: 2 ends a window as over threshold 6 tier 1 epoch 9":  {Kind: api.EvClose, Tick: 3, S: 2, Id: 9, Code: 1, A: 6, B: 1},
		"3: 2 ends a window as calm threshold 6 tier 1 epoch 9":  {Kind: api.EvClose, Tick: 3, S: 2, Id: 9, Code: 2, A: 6, B: 1},
		"3: 2 ends a window as 3 threshold 6 tier 1 epoch 9":     {Kind: api.EvClose, Tick: 3, S: 2, Id: 9, Code: 3, A: 6, B: 1},
		"3: 2 ends a window as -1 threshold 6 tier 1 epoch 9":    {Kind: api.EvClose, Tick: 3, S: 2, Id: 9, Code: -1, A: 6, B: 1},
		"3: 2 is pushed 7 taken":                                 {Kind: api.EvPush, Tick: 3, S: 2, Id: 7, Code: 1},
		"3: 2 is pushed 7 left":                                  {Kind: api.EvPush, Tick: 3, S: 2, Id: 7},
		"4: 2 is pushed 7 left":                                  {Kind: api.EvPush, Tick: 4, S: 2, Id: 7, Code: 2},
		"3: 2 restarts with threshold -1 in epoch 9":             {Kind: api.EvRestart, Tick: 3, S: 2, Id: 9, A: -1},
		"3: 2 lets go of 5 of level -1":                          {Kind: api.EvErase, Tick: 3, S: 2, Id: 5, A: -1},
		"3: client asks 2 for 5 of level -1 until -1":            {Kind: api.EvAsk, Tick: 3, S: 2, Id: 5, A: -1, B: -1},
		"3: client asks client for 5 of level 4 until 9":         {Kind: api.EvAsk, Tick: 3, S: -1, Id: 5, A: 4, B: 9},
		"3: client hears 2 on 5 as spent":                        {Kind: api.EvAnswer, Tick: 3, S: 2, Id: 5, Code: 4},
		"3: lost request 5 from client to 0":                     {Kind: api.EvLost, Tick: 3, S: -1, Id: 5, Code: 1, A: -1, B: 0},
		"3: lost reply 5 from 0 to client":                       {Kind: api.EvLost, Tick: 3, S: 0, Id: 5, Code: 2, A: 0, B: -1},
		"3: lost push 5 from client to 7":                        {Kind: api.EvLost, Tick: 3, S: -1, Id: 5, Code: 3, A: -1, B: 7},
		"3: lost 0 5 from client to 7":                           {Kind: api.EvLost, Tick: 3, S: -1, Id: 5, A: -1, B: 7},
		"3: lost 4 5 from client to 7":                           {Kind: api.EvLost, Tick: 3, S: -1, Id: 5, Code: 4, A: -1, B: 7},
	} {
		if got, err := trace.Tell(v); got != want || err != api.OK {
			t.Errorf("Tell(%v) = %q, %v; want %q", v, got, err, want)
		}
	}
	for code, name := range []string{"waiting", "good", "refused", "expired", "spent", "evicted", "late", "failed", "cut", "starved", "broken", "dimmed", "12"} {
		if got, _ := trace.Tell(api.Event{Kind: api.EvEnd, Code: code}); got != "0: 0 ends 0 as "+name {
			t.Errorf("outcome %d: %q", code, got)
		}
	}
	for _, kind := range wrongKinds {
		if got, err := trace.Tell(api.Event{Kind: kind}); got != "" || err != api.ErrArg {
			t.Errorf("kind %d: %q, %v", kind, got, err)
		}
	}
}
