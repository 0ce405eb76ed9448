package words_test

import (
	"slices"
	"strings"
	"testing"

	"lockkeeper/words"
)

func TestLines(t *testing.T) {
	for _, c := range []struct {
		s    string
		want []string
	}{
		{"", nil}, {"a", []string{"a"}}, {"a\n", []string{"a"}}, {"\n\n", []string{"", ""}}, {"\n", []string{""}},
		{"a\nb", []string{"a", "b"}}, {"a\n\nb\n", []string{"a", "", "b"}}, {"\na", []string{"", "a"}},
		{"a\r\nb", []string{"a\r", "b"}}, {"a # b\n c\t", []string{"a # b", " c\t"}},
		{"\xe2\n\xff\n\x80", []string{"\xe2", "\xff", "\x80"}}, {"é\n→\n", []string{"é", "→"}}, {"\x00\n\x00", []string{"\x00", "\x00"}},
	} {
		if got := words.Lines(c.s); !slices.Equal(got, c.want) {
			t.Errorf("Lines(%q) = %q", c.s, got)
		}
	}
}

func TestWords(t *testing.T) {
	for _, c := range []struct {
		s    string
		want []string
	}{
		{"", nil}, {" \t ", nil}, {"a", []string{"a"}}, {"a  b#c", []string{"a", "b"}}, {"\ta\t\tb ", []string{"a", "b"}},
		{"#a b", nil}, {" # a", nil}, {"a#", []string{"a"}}, {"a #b # c", []string{"a"}}, {"a##b", []string{"a"}}, {"ab#c d", []string{"ab"}},
		{"a\nb", []string{"a\nb"}}, {"a \n b", []string{"a", "\n", "b"}}, {"a # b\nc", []string{"a"}},
		{"a\rb\vc", []string{"a\rb\vc"}}, {"\xff \xe2 x", []string{"\xff", "\xe2", "x"}}, {"é\u00a0b", []string{"é\u00a0b"}},
		{"x=1 y=2", []string{"x=1", "y=2"}},
	} {
		if got := words.Words(c.s); !slices.Equal(got, c.want) {
			t.Errorf("Words(%q) = %q", c.s, got)
		}
	}
}

func TestJoin(t *testing.T) {
	for _, c := range []struct {
		l    []string
		want string
	}{{nil, ""}, {[]string{"a"}, "a"}, {[]string{"a", "b", "c"}, "a b c"}, {[]string{"", ""}, " "}} {
		if got := words.Join(c.l...); got != c.want {
			t.Errorf("Join(%q) = %q", c.l, got)
		}
	}
}

func TestCut(t *testing.T) {
	for _, c := range []struct {
		w, name, value string
		ok             bool
	}{
		{"x=1=2", "x", "1=2", true}, {"x=", "x", "", true}, {"=1", "", "1", true}, {"=", "", "", true}, {"==", "", "=", true},
		{"x", "", "", false}, {"", "", "", false}, {"low=4", "low", "4", true},
	} {
		if name, value, ok := words.Cut(c.w); name != c.name || value != c.value || ok != c.ok {
			t.Errorf("Cut(%q) = %q, %q, %v", c.w, name, value, ok)
		}
	}
}

func TestPlain(t *testing.T) {
	if !words.Plain("") {
		t.Error("the empty text")
	}
	for b := 0; b < 256; b++ {
		s := "a" + string([]byte{byte(b)}) + "z"
		if got := words.Plain(s); got != (b >= 32 && b <= 126) {
			t.Errorf("Plain with the byte %d: %v", b, got)
		}
	}
	if words.Plain("é") || words.Plain("\uFFFD") {
		t.Error("runes of several bytes")
	}
}

func TestFind(t *testing.T) {
	for _, c := range []struct {
		w    string
		l    []string
		at   int
		want bool
	}{
		{"a", nil, 0, false}, {"a", []string{"a"}, 0, true}, {"b", []string{"a", "b", "b"}, 1, true}, {"c", []string{"a", "b"}, 0, false},
		{"", []string{"a", ""}, 1, true}, {"", []string{"a"}, 0, false}, {"ab", []string{"a", "abc", "ab"}, 2, true},
	} {
		if at, ok := words.Find(c.w, c.l...); at != c.at || ok != c.want {
			t.Errorf("Find(%q, %q) = %d, %v", c.w, c.l, at, ok)
		}
	}
}

func TestWordsAndLinesAreRecovered(t *testing.T) {
	l := []string{"a", "b=1", "\n", "\xff", "é", "a"}
	if got := words.Words(words.Join(l...)); !slices.Equal(got, l) {
		t.Errorf("words: %q", got)
	}
	lines := []string{"", "a b", "#", "", " \t", "\xfe"}
	if got := words.Lines(strings.Join(lines, "\n") + "\n"); !slices.Equal(got, lines) {
		t.Errorf("lines: %q", got)
	}
}
