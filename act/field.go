package act

import (
	"lockkeeper/api"
	"lockkeeper/dec"
	"lockkeeper/frame"
	"lockkeeper/knob"
	"lockkeeper/words"
)

// field is how a line tells one of an act's fields.
type field struct {
	words int // how many it takes
	write func(a api.Act) string
	read  func(a *api.Act, l []string) // panics if a word is wrong
	copy  func(to, from *api.Act)
}

// of is a field of one word.
func of[T any](at func(a *api.Act) *T, write func(T) string, read func(word string) T) field {
	return field{
		words: 1,
		write: func(a api.Act) string { return write(*at(&a)) },
		read:  func(a *api.Act, l []string) { *at(a) = read(l[0]) },
		copy:  func(to, from *api.Act) { *at(to) = *at(from) },
	}
}

func number(at func(a *api.Act) *int) field { return of(at, dec.Text, readNumber) }

func participant(at func(a *api.Act) *int) field { return of(at, frame.Who, readName) }

func octets() field {
	return of(func(a *api.Act) *string { return &a.Bytes }, writeBytes, readBytes)
}

func settings() field {
	return field{
		words: len(knob.Names()),
		write: func(a api.Act) string { return knob.Text(a.Knobs) },
		read: func(a *api.Act, l []string) {
			k, err := knob.Parse(words.Join(l...))
			must(err == api.OK)
			a.Knobs = k
		},
		copy: func(to, from *api.Act) { to.Knobs = from.Knobs },
	}
}

func readNumber(word string) int {
	n, err := dec.Parse(word)
	must(err == api.OK)
	return n
}

func readName(word string) int {
	if word == frame.Who(api.Client) {
		return api.Client
	}
	n := readNumber(word)
	// The client's number has a name of its own.
	must(n != api.Client)
	return n
}

const (
	noBytes   = "-"
	hexDigits = "0123456789abcdef"
)

func writeBytes(s string) string {
	if s == "" {
		return noBytes
	}
	var out []byte
	for i := range len(s) {
		out = append(out, hexDigits[s[i]>>4], hexDigits[s[i]&15])
	}
	return string(out)
}

func readBytes(word string) string {
	if word == noBytes {
		return ""
	}
	must(len(word)%2 == 0)
	var out []byte
	high := -1 // the first digit of a byte, until its second one is read
	for _, r := range word {
		value := valueOf(r)
		if high < 0 {
			high = value
			continue
		}
		out = append(out, byte(high<<4|value))
		high = -1
	}
	return string(out)
}

func valueOf(digit rune) int {
	for value, r := range hexDigits {
		if r == digit {
			return value
		}
	}
	panic(api.ErrForm)
}
