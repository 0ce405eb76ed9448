package desk_test

import (
	"strconv"
	"strings"
	"testing"

	"lockkeeper/api"
	"lockkeeper/cluster"
	"lockkeeper/desk"
	"lockkeeper/frame"
	"lockkeeper/play"
	"lockkeeper/pump"
	"lockkeeper/report"
	"lockkeeper/site"
	"lockkeeper/trace"
	"lockkeeper/user"
)

// says holds the answers to lines against those that are wanted: line, answer, line, answer.
func says(t *testing.T, d *desk.Desk, l ...string) {
	t.Helper()
	for i := 0; i+1 < len(l); i += 2 {
		if got := d.Say(l[i]); got != l[i+1] {
			t.Errorf("%q answers %q, want %q", l[i], got, l[i+1])
		}
	}
}

const (
	form  = "error 2\n"
	none  = "error 7\n"
	state = "error 12\n"
	arg   = "error 1\n"
	right = "ledger right\nmono right\nshed right\n"
)

// class is that of a user at the usual site, in its first period.
func class(t *testing.T, who uint64) string {
	t.Helper()
	u, err := user.New(1, 4, 1000)
	if err != api.OK {
		t.Fatal(err)
	}
	return strconv.Itoa(u.Class(who, 0))
}

func TestExample(t *testing.T) {
	l := class(t, 1)
	says(t, desk.New(),
		"usual 1", "begun 1\n",
		"ask 0 0 1 30 5", "at 0 ask 0 1 0 "+l+" 30\n",
		"run 9", "at 0 came 0 1 0 "+l+" 8\nat 0 start 0 1 0 0 30\nat 0 end 0 1 1 "+l+" 0\nat 0 answer 0 1 1 0 0\ndone 3\n",
		"check", right,
	)
}

func TestLinesThatAreWrong(t *testing.T) {
	wrong := []string{
		"go", "Begin", "begin now", "usual", "usual x", "usual 01", "usual 1 2", "usual +1", "end 1", "run", "run 1 2", "run x", "ticks 1", "ticks 1 2 3", "ticks 1 x", "show", "show client", "show 0 0",
		"queue", "queue 0 1", "links 0", "report", "report 0 1", "windows", "windows x", "levels", "levels 0 0", "tell", "tell x", "check 1", "trace", "trace -", "text 1", "answer", "site", "lost",
		"tick 1", "ask 0 0 1 30", "deliver -1 0 0", "done 0", "push 0 1", "raw 0 1", "restart client", "usual 9223372036854775808",
	}
	for _, begun := range []bool{false, true} {
		d := desk.New()
		if begun {
			d.Say("usual 2")
		}
		for _, line := range wrong {
			says(t, d, line, form)
		}
		for _, line := range []string{"", " ", "\t", "# begin", "  # usual 1"} {
			says(t, d, line, "")
		}
	}
}

func TestWithoutASite(t *testing.T) {
	d := desk.New()
	for _, line := range []string{
		"tick", "ask 9 9 9 9 9", "done 0 1", "raw client 0 -", "run 1", "ticks 1 1", "show 0", "show 9", "queue 0", "queue -1", "links", "report 0", "report 7", "windows 0", "levels 0", "tell 1", "check", "trace 1", "text",
	} {
		says(t, d, line, state)
	}
	says(t, d, "end", "", "set x", "", "set", "", "usual 0", arg, "usual 9", arg, "usual -1", arg)
}

func TestServicesThatAreNot(t *testing.T) {
	d := desk.New()
	d.Say("usual 2")
	for _, s := range []string{"2", "-1", "8", "9223372036854775807", "-9223372036854775808"} {
		for _, word := range []string{"show ", "queue ", "report ", "windows ", "levels "} {
			says(t, d, word+s, none)
		}
	}
}

func TestSetAndBegin(t *testing.T) {
	const (
		head    = "site business=2 classes=4 rotate=1000 key=0000000000000001"
		service = "service workers=1 queue=4 window=10 tiers=1 seen=64 ttl=20 low=1 high=4 cut=10 lift=5 floor=1 turn=3 dwell=2"
		call    = "call to=0 tier=0 weight=6 most=20"
	)
	d := desk.New()
	says(t, d, "begin", form, "set "+head, "", "begin", "error 10\n", "set   "+service+" # the first", "", "set", "", "set # nothing", "", "begin", "begun 1\n", "begin", form)
	// A site that begins takes the place of another one, with all that was done there.
	says(t, d, "tick", "", "tick", "", "set "+head, "", "set "+service, "", "set "+service, "", "begin", "begun 2\n", "show 1", "service 1 threshold 8 tier 1 epoch 1 calm 0 waits 0 works 0\n",
		"text", site.Text(usual2NoCalls(t))+"go\n")
	// What was set stays if it does not begin, and the site goes on.
	says(t, d, "tick", "", "set "+head, "", "set nonsense", "", "begin", form, "text", site.Text(usual2NoCalls(t))+"go\ntick\n", "begin", form, "end", "", "begin", form, "tick", state)
	says(t, d, "set "+head, "", "set "+service, "", "set "+service, "", "set "+call, "", "set "+service, "", "set call to=1 tier=0 weight=6 most=20", "", "begin", "begun 3\n")
	says(t, d, "set "+head, "", "set "+service, "", "set call to=1 tier=0 weight=6 most=20", "", "set "+service, "", "set "+call, "", "begin", "error 11\n")
	// What is usual lets go of what was set, too.
	says(t, d, "usual 1", "begun 1\n", "begin", form)
	for range 201 {
		d.Say("set " + strings.Repeat("x", 99))
	}
	says(t, d, "begin", "error 9\n")
}

// usual2NoCalls are two services that call nobody.
func usual2NoCalls(t *testing.T) api.Site {
	t.Helper()
	s, err := site.Usual(2)
	if err != api.OK {
		t.Fatal(err)
	}
	s.Services[0].Calls = nil
	return s
}

func TestEnd(t *testing.T) {
	d := desk.New()
	says(t, d, "usual 1", "begun 1\n", "end", "", "tick", state, "usual 2", "begun 2\n", "text", textOf(t, 2))
}

func textOf(t *testing.T, services int, acts ...api.Act) string {
	t.Helper()
	s, err := site.Usual(services)
	if err != api.OK {
		t.Fatal(err)
	}
	text, err := play.Text(s, acts...)
	if err != api.OK {
		t.Fatal(err)
	}
	return text
}

func TestActs(t *testing.T) {
	d := desk.New()
	d.Say("usual 2")
	says(t, d, "ask 2 0 1 30 5", none, "ask 0 2 1 30 5", arg, "done 0 1", none, "deliver client 0 0", none, "raw client 0 b7", "error 3\n", "raw client 0 b6", form, "twin client 0 0", none, "tick", "")
	says(t, d, "  ask 0 0 1   30 5 # now", "at 1 ask 0 1 0 "+class(t, 1)+" 31\n", "deliver client 0 0", "at 1 came 0 1 0 "+class(t, 1)+" 8\nat 1 start 0 1 0 0 31\n",
		"done 0 1", "at 1 call 0 1 0 1 1099511627777\n", "done 0 1", state)
	// What was refused is no part of the text.
	says(t, d, "text", textOf(t, 2, api.Act{Kind: api.ActTick}, api.Act{Kind: api.ActAsk, User: 1, Ttl: 30, Budget: 5}, api.Act{Kind: api.ActDeliver, From: -1}, api.Act{Kind: api.ActDone, Id: 1}))
}

func TestRunAndTicks(t *testing.T) {
	d := desk.New()
	d.Say("usual 1")
	l := class(t, 1)
	says(t, d, "run 5", "done 0\n", "ask 0 0 1 30 5", "at 0 ask 0 1 0 "+l+" 30\n", "run 1", "at 0 came 0 1 0 "+l+" 8\nat 0 start 0 1 0 0 30\ndone 1\n", "run -1", "done 0\n",
		"ticks 2 1", "at 1 end 0 1 1 "+l+" 0\nat 2 answer 0 1 1 0 0\ndone 4\n", "ticks -1 5", "done 0\n", "ticks 8 0", "at 10 close 0 1 2 8 1\ndone 8\n")
	text := d.Say("text")
	if !strings.HasSuffix(text, "go\nask 0 0 1 30 5\ndeliver client 0 0\ntick\ndone 0 1\ntick\ndeliver 0 client 0\n"+strings.Repeat("tick\n", 8)) {
		t.Errorf("text: %q", text)
	}
	// More acts than a text may have make no text.
	says(t, d, "ticks 4000 0", d.Say("trace 0")+ticksAnswer(t, 10, 4000), "text", "")
}

// ticksAnswer are the ends of windows of a usual service that nobody asks anything.
func ticksAnswer(t *testing.T, now, ticks int) string {
	t.Helper()
	out := ""
	for range ticks {
		now++
		if now%10 == 0 {
			out += "at " + strconv.Itoa(now) + " close 0 1 2 8 1\n"
		}
	}
	return out + "done " + strconv.Itoa(ticks) + "\n"
}

// busy is a desk with a lot behind it, beside what the same acts come to by calls.
func busy(t *testing.T) (*desk.Desk, *cluster.Cluster, []api.Event) {
	t.Helper()
	d := desk.New()
	d.Say("usual 3")
	s, _ := site.Usual(3)
	c, err := cluster.New(s)
	if err != api.OK {
		t.Fatal(err)
	}
	var events []api.Event
	for i := range 60 {
		a := api.Act{Kind: api.ActAsk, S: i % 3, Business: i % 2, User: i, Ttl: 20, Budget: 9}
		d.Say("ask " + strconv.Itoa(a.S) + " " + strconv.Itoa(a.Business) + " " + strconv.Itoa(i) + " 20 9")
		more, _ := c.Do(a)
		events = append(events, more...)
		d.Say("run 3")
		_, more = pump.Run(c, 3)
		events = append(events, more...)
		if i%2 == 0 {
			d.Say("ticks 1 2")
			_, more = pump.Ticks(c, 1, 2)
			events = append(events, more...)
		}
	}
	// In the end some wait, and some are on their way.
	for i := range 5 {
		d.Say("ask 0 0 9 20 9")
		more, _ := c.Do(api.Act{Kind: api.ActAsk, User: 9, Ttl: 20, Budget: 9})
		events = append(events, more...)
		if i < 3 {
			d.Say("deliver client 0 0")
			more, _ = c.Do(api.Act{Kind: api.ActDeliver, From: -1})
			events = append(events, more...)
		}
	}
	return d, c, events
}

func TestWhatIsShown(t *testing.T) {
	d, c, events := busy(t)
	n := strconv.Itoa
	waits := 0
	for s := range 3 {
		says(t, d, "show "+n(s), "service "+n(s)+" threshold "+n(c.Threshold(s))+" tier "+n(c.Tier(s))+" epoch "+n(c.Epoch(s))+" calm "+n(c.Calm(s))+" waits "+n(len(c.Queue(s)))+" works "+n(len(c.Jobs(s)))+"\n")
		want := ""
		for _, x := range c.Queue(s) {
			waits++
			want += "wait " + n(x.Id) + " " + n(x.Level) + " " + n(x.Deadline) + " " + n(x.Budget) + " " + n(x.Since) + "\n"
		}
		says(t, d, "queue "+n(s), want)
		r, _, _ := report.Of(s, events...)
		says(t, d, "report "+n(s), report.Line(r)+"\n")
		reports, _, _ := report.Windows(s, events...)
		want = ""
		for _, r := range reports {
			want += report.Line(r) + "\n"
		}
		says(t, d, "windows "+n(s), want)
		all, good, _ := report.Levels(s, 8, events...)
		want, _ = report.Table(2, 4, all, good)
		says(t, d, "levels "+n(s), want)
	}
	want := ""
	for _, link := range c.Links() {
		frames := 0
		for {
			if _, err := c.At(link[0], link[1], frames); err != api.OK {
				break
			}
			frames++
		}
		want += "link " + frame.Who(link[0]) + " " + frame.Who(link[1]) + " " + n(frames) + "\n"
	}
	says(t, d, "links", want, "check", right)
	if waits == 0 || want == "" {
		t.Error("nothing to see")
	}
}

func TestLinks(t *testing.T) {
	d := desk.New()
	d.Say("usual 2")
	says(t, d, "links", "")
	for range 3 {
		d.Say("ask 0 0 1 30 5")
	}
	says(t, d, "links", "link client 0 3\n")
	d.Say("deliver client 0 0")
	d.Say("deliver client 0 0")
	d.Say("fail 0 1")
	d.Say("done 0 2")
	says(t, d, "links", "link client 0 1\nlink 0 client 1\nlink 0 1 1\n")
	d.Say("twin 0 client 0")
	says(t, d, "links", "link client 0 1\nlink 0 client 2\nlink 0 1 1\n")
}

func TestTellAndTrace(t *testing.T) {
	d, _, events := busy(t)
	for said, many := range map[string]int{"0": 0, "1": 1, "7": 7, "-3": 0, "9223372036854775807": len(events), strconv.Itoa(len(events)): len(events), "-9223372036854775808": 0} {
		last := events[len(events)-many:]
		lines, _ := trace.Text(last...)
		told := ""
		for _, v := range last {
			s, _ := trace.Tell(v)
			told += s + "\n"
		}
		says(t, d, "trace "+said, lines, "tell "+said, told)
	}
}

func TestTextsArePlayedAgain(t *testing.T) {
	d, _, events := busy(t)
	told, _ := trace.Text(events...)
	if got, at, err := play.Play(d.Say("text")); got != told || at != 0 || err != api.OK {
		t.Errorf("played again: %d, %v", at, err)
	}
	// The same by lines: those of the site are set.
	again := desk.New()
	lines := strings.Split(d.Say("text"), "\ngo\n")
	for _, line := range strings.Split(lines[0], "\n") {
		says(t, again, "set "+line, "")
	}
	says(t, again, "begin", "begun 3\n")
	if got := again.All(lines[1]); got != told {
		t.Errorf("by lines: %q", got)
	}
	says(t, again, "text", d.Say("text"), "check", right)
}

func TestCheckTellsWhatCameFromOutside(t *testing.T) {
	// A reply that service 1 never sent tells of a threshold that it never had.
	bytes, err := frame.Encode(api.Frame{Kind: api.KindReply, Reply: api.Reply{Id: 9, From: 1, To: 0, Code: 1, Threshold: 0, Epoch: 9}})
	if err != api.OK {
		t.Fatal(err)
	}
	hex := ""
	for _, b := range []byte(bytes) {
		hex += strconv.FormatInt(int64(b>>4), 16) + strconv.FormatInt(int64(b&15), 16)
	}
	s, _ := site.Usual(2)
	s.Services[0].Calls[0].Tier = 1
	d := desk.New()
	for _, line := range strings.Split(site.Text(s), "\n") {
		d.Say("set " + line)
	}
	says(t, d, "begin", "begun 2\n", "raw 1 0 "+hex, "", "deliver 1 0 0", "at 0 learn 0 9 0 1 0\nat 0 heard 0 9 1 1 0\n", "check", right)
	d.Say("ask 0 0 1 30 5")
	d.Say("deliver client 0 0")
	l := class(t, 1)
	says(t, d, "done 0 1", "at 0 skip 0 1 8 1 0\nat 0 end 0 1 1 "+l+" 0\n", "check", "ledger right\nmono right\nshed wrong\n")
}

func TestAll(t *testing.T) {
	d := desk.New()
	if got := d.All("usual 1\n\n# so\nrun 1\nnonsense\nshow 0\nend\ntick"); got != "begun 1\ndone 0\n"+form+"service 0 threshold 8 tier 1 epoch 1 calm 0 waits 0 works 0\n"+state {
		t.Errorf("All = %q", got)
	}
	if got := d.All(""); got != "" {
		t.Errorf("All of nothing = %q", got)
	}
}

func TestNilAndZero(t *testing.T) {
	var d *desk.Desk
	says(t, d, "usual 1", "", "nonsense", "", "", "", "check", "")
	if got := d.All("usual 1\ntick\n"); got != "" {
		t.Errorf("All = %q", got)
	}
	says(t, &desk.Desk{}, "tick", state, "set x", "", "begin", form, "usual 1", "begun 1\n", "tick", "", "check", right)
}
