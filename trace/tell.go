package trace

import (
	"lockkeeper/api"
	"lockkeeper/dec"
	"lockkeeper/frame"
	"lockkeeper/reply"
	"lockkeeper/words"
)

// tale is how a kind is told; capital words stand for what its events say.
func tale(kind int) string {
	return [kinds]string{
		api.EvCame:    "S decides ID of level A by threshold B as OUTCOME",
		api.EvTwice:   "S has seen ID",
		api.EvStart:   "S takes ID on behind A ticks",
		api.EvEnd:     "S ends ID as OUTCOME",
		api.EvCall:    "S asks WHO-A for ID by B",
		api.EvSkip:    "S leaves WHO-A out for ID as OUTCOME",
		api.EvHeard:   "S hears WHO-A on ID as OUTCOME WAITED",
		api.EvLearn:   "S learns that WHO-A lets pass B in epoch ID",
		api.EvClose:   "S ends a window as VERDICT threshold A tier B epoch ID",
		api.EvPush:    "S is pushed ID TAKEN",
		api.EvRestart: "S restarts with threshold A in epoch ID",
		api.EvErase:   "S lets go of ID of level A",
		api.EvAsk:     "client asks S for ID of level A until B",
		api.EvAnswer:  "client hears S on ID as OUTCOME",
		api.EvLost:    "lost FRAME ID from WHO-A to WHO-B",
	}[kind]
}

// say is what a word of a tale stands for; most stand for themselves.
func say(word string, v api.Event) string {
	switch word {
	case "S":
		return frame.Who(v.S)
	case "ID":
		return dec.Text(v.Id)
	case "A":
		return dec.Text(v.A)
	case "B":
		return dec.Text(v.B)
	case "WHO-A":
		return frame.Who(v.A)
	case "WHO-B":
		return frame.Who(v.B)
	case "OUTCOME":
		return outcome(v.Code)
	case "VERDICT":
		return oneOf(v.Code, api.Mid, "mid", "over", "calm")
	case "FRAME":
		return oneOf(v.Code, api.KindRequest, "request", "reply", "push")
	case "WAITED":
		return either(v.B == 1, "waited", "unasked")
	case "TAKEN":
		return either(v.Code == 1, "taken", "left")
	}
	return word
}

func outcome(code int) string {
	name, found := reply.Name(code)
	switch {
	case found:
		return name
	case code == api.Dimmed:
		return "dimmed"
	case code == 0:
		return "waiting"
	}
	return dec.Text(code)
}

// oneOf is the name of a number, the first name being that of first, or else its text.
func oneOf(n, first int, names ...string) string {
	if n < first || n >= first+len(names) {
		return dec.Text(n)
	}
	return names[n-first]
}

func either(first bool, a, b string) string {
	if first {
		return a
	}
	return b
}

// Tell is an event in plain words.
func Tell(v api.Event) (string, api.Errno) {
	if _, found := Word(v.Kind); !found {
		return "", api.ErrArg
	}
	told := []string{dec.Text(v.Tick) + ":"}
	for _, word := range words.Words(tale(v.Kind)) {
		told = append(told, say(word, v))
	}
	return words.Join(told...), api.OK
}
