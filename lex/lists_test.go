package lex_test

import (
	"slices"
	"strings"
	"testing"

	"smocking/api"
	"smocking/lex"
)

// TestAtIsTheTokenThatHasTheByte asks for each place of each text.
func TestAtIsTheTokenThatHasTheByte(t *testing.T) {
	for _, s := range append(someTexts()[:3000], "a /* b */+1") {
		l := scan(t, s)
		var want []int
		for i, x := range l {
			for range len(x.Before) + len(x.Text) {
				want = append(want, i)
			}
		}
		want = append(want, len(l)-1)
		for at, i := range want {
			if got, e := lex.At(l, at); got != i || e != api.OK {
				t.Fatalf("At(%q, %d) = %d, %d; want %d", s, at, got, e, i)
			}
		}
		for _, at := range []int{-1, len(s) + 1, -1 << 63, 1<<63 - 1} {
			if got, e := lex.At(l, at); got != 0 || e != api.ErrRange {
				t.Fatalf("At(%q, %d) = %d, %d; want ErrRange", s, at, got, e)
			}
		}
	}
}

func TestAtOfTokensWithoutBytes(t *testing.T) {
	l := []api.Token{{Kind: api.KName}, {Kind: api.KSign}, {Kind: api.KName, Text: "a"}, {Kind: api.KName, At: 1}, {Kind: api.KEnd, Before: " ", At: 2}}
	for at, want := range []int{2, 4, 4} {
		if got, e := lex.At(l, at); got != want || e != api.OK {
			t.Errorf("At(%d) = %d, %d; want %d", at, got, e, want)
		}
	}
	for _, l := range [][]api.Token{{{}}, {{Kind: api.KName}, {}}} {
		if got, e := lex.At(l, 0); got != len(l)-1 || e != api.OK {
			t.Errorf("At of a text with no bytes = %d, %d", got, e)
		}
	}
}

func TestAtOfNoTokens(t *testing.T) {
	a := api.Token{Kind: api.KName, Before: " ", Text: "a", At: 1}
	end := api.Token{At: 2}
	for name, l := range map[string][]api.Token{
		"an empty list":              {},
		"no end":                     {a},
		"an end with a text":         {a, {Text: "b", At: 2}},
		"two ends":                   {a, end, end},
		"an end at the beginning":    {{}, a},
		"an end, then a name":        {a, end, {Kind: api.KName, At: 2}},
		"the end's place":            {a, {At: 1}},
		"the end's place, with what": {a, {Before: " ", At: 2}},
		"a token's place":            {{Kind: api.KName, Before: " ", Text: "a"}, end},
		"a place too great":          {{Kind: api.KName, Before: " ", Text: "a", At: 2}, {At: 3}},
		"a first place below 0":      {{Kind: api.KName, At: -1}, {At: -1}},
	} {
		for _, at := range []int{0, -1, 99} {
			if got, e := lex.At(l, at); got != 0 || e != api.ErrForm {
				t.Errorf("%s: At(%d) = %d, %d; want ErrForm", name, at, got, e)
			}
		}
	}
	if got, e := lex.At([]api.Token{a, end}, 2); got != 1 || e != api.OK {
		t.Errorf("At = %d, %d", got, e)
	}
}

func TestStrip(t *testing.T) {
	s := "#if x\nint a = 'b' + \"c\" /* d */ @ 1; \\\n #else\n# f\n"
	want := []string{"int", "a", "=", "'b'", "+", "\"c\"", "@", "1", ";"}
	if got := lex.Strip(scan(t, s)); !slices.Equal(got, want) {
		t.Errorf("Strip = %q; want %q", got, want)
	}
	if got := lex.Strip([]api.Token{{Kind: api.KEnd, Text: "a"}, {Kind: 77, Text: "b", Before: "c"}, {Kind: api.KLine, Text: "#"}}); !slices.Equal(got, []string{"b"}) {
		t.Errorf("Strip of any tokens = %q", got)
	}
	if got := lex.Strip(nil); len(got) != 0 {
		t.Errorf("Strip of none = %q", got)
	}
}

func TestFormats(t *testing.T) {
	for _, c := range []struct{ s, want string }{
		{"", ""},
		{"abc", ""},
		{"%d", "%d"},
		{"%d %i%u,%x%X%c%s%p%%", "%d %i %u %x %X %c %s %p %%"},
		{"%-5d|%+d|%#x|%0-5d|%-+#00012d", "%-5d %+d %#x %0-5d %-+#00012d"},
		{"%.3s %10.2d %.d %5.u", "%.3s %10.2d %.d %5.u"},
		{"%ld %hd %lld %hhx %hlhl5 %hlhld", "%ld %hd %lld %hhx %hlhld"},
		{"%-010.20hlX", "%-010.20hlX"},
		{"%5% %-% %%%d %%d", "%5% %-% %% %d %%"},
		{"%f %q %5 %", ""},
		{"%f%d %5f%s %", "%d %s"},
		{"%l5d %.-5d %5-d %..d %.5.d %d", "%d"},
		{"%\\\"d %\\d %\\\\", ""},
		{"%ih %D %S %dd", "%i %d"},
	} {
		got, e := lex.Formats("\"" + c.s + "\"")
		if strings.Join(got, " ") != c.want || e != api.OK {
			t.Errorf("Formats(%q) = %q, %d; want %q", c.s, got, e, c.want)
		}
	}
	if got, e := lex.Formats("\"% d%  +s% %\""); !slices.Equal(got, []string{"% d", "%  +s", "% %"}) || e != api.OK {
		t.Errorf("Formats with blanks = %q, %d", got, e)
	}
}

func TestFormatsOfNoString(t *testing.T) {
	for _, s := range []string{"", "%d", "\"", "\"%d", "%d\"", "'%d'", "\"%d\" ", " \"%d\"", "\"%d\"\"%d\"", "\"%d\" \"%d\"", "\"%d\\\"", "\"%d\n\"", "\"%d\\\n\"", "\"%d\"/**/", "L\"%d\"", "1", "a", "\"a\"b\"", "\"\"\""} {
		if got, e := lex.Formats(s); len(got) != 0 || e != api.ErrForm {
			t.Errorf("Formats(%q) = %q, %d; want ErrForm", s, got, e)
		}
	}
}

func TestRescan(t *testing.T) {
	for _, c := range []struct {
		s       string
		e       api.Edit
		changed string
		want    []string
	}{
		{"a+b", api.Edit{From: 1, To: 2, Text: " "}, "a b", []string{"~name a", " ~name b", "~end "}},
		{"a b", api.Edit{From: 1, To: 2}, "ab", []string{"~name ab", "~end "}},
		{"a b", api.Edit{From: 1, To: 1, Text: "/*"}, "a/* b", []string{"~name a", "/* b~end "}},
		{"a\n#b\nc", api.Edit{From: 4, To: 4, Text: "\\"}, "a\n#b\\\nc", []string{"~name a", "\n~line #b\\\nc", "~end "}},
		{"a", api.Edit{From: 1, To: 1}, "a", []string{"~name a", "~end "}},
		{"", api.Edit{Text: "x"}, "x", []string{"~name x", "~end "}},
		{"x", api.Edit{To: 1}, "", []string{"~end "}},
	} {
		s, l, e := lex.Rescan(c.s, scan(t, c.s), c.e)
		if s != c.changed || !slices.Equal(told(l, true), c.want) || e != api.OK {
			t.Errorf("Rescan(%q, %v) = %q, %q, %d; want %q, %q", c.s, c.e, s, told(l, true), e, c.changed, c.want)
		}
	}
}

func TestErrorsOfRescan(t *testing.T) {
	with := func(do func(l []api.Token)) []api.Token {
		l := scan(t, "a b")
		do(l)
		return l
	}
	long := strings.Repeat("a", api.MaxText)
	many := strings.Repeat(";", api.MaxTokens-1)
	beyond := api.Edit{From: 9, To: 9}
	for _, c := range []struct {
		name, s string
		l       []api.Token
		e       api.Edit
		want    api.Errno
	}{
		{"tokens of another text", "a  b", scan(t, "a b"), api.Edit{}, api.ErrForm},
		{"no tokens", "", nil, api.Edit{}, api.ErrForm},
		{"no end", "a b", scan(t, "a b")[:2], api.Edit{}, api.ErrForm},
		{"an end more", "a b", append(scan(t, "a b"), api.Token{At: 3}), api.Edit{}, api.ErrForm},
		{"another kind", "a b", with(func(l []api.Token) { l[1].Kind = api.KKey }), api.Edit{}, api.ErrForm},
		{"another place", "a b", with(func(l []api.Token) { l[1].At = 1 }), api.Edit{}, api.ErrForm},
		{"another Before", "a b", with(func(l []api.Token) { l[1].Before = "\t" }), api.Edit{}, api.ErrForm},
		{"another text of a token", "a b", with(func(l []api.Token) { l[0].Text = "b" }), api.Edit{}, api.ErrForm},
		{"a text that has no tokens", long + "a", nil, api.Edit{}, api.ErrForm},
		{"other tokens ahead of a place beyond", "a", nil, beyond, api.ErrForm},
		{"a place beyond", "a b", scan(t, "a b"), beyond, api.ErrRange},
		{"a place below 0", "a b", scan(t, "a b"), api.Edit{From: -1}, api.ErrRange},
		{"From behind To", "a b", scan(t, "a b"), api.Edit{From: 2, To: 1}, api.ErrRange},
		{"a result of MaxText bytes", long[1:], scan(t, long[1:]), api.Edit{Text: "a"}, api.OK},
		{"too long a result", long, scan(t, long), api.Edit{Text: "a"}, api.ErrLimit},
		{"a result of MaxTokens tokens", many, scan(t, many), api.Edit{Text: " "}, api.OK},
		{"too many tokens", many, scan(t, many), api.Edit{Text: ";"}, api.ErrLimit},
	} {
		old := slices.Clone(c.l)
		s, l, e := lex.Rescan(c.s, c.l, c.e)
		if e != c.want || e != api.OK && (s != "" || len(l) != 0) || e == api.OK && lex.Text(l) != s {
			t.Errorf("%s: Rescan = %d bytes, %d tokens, %d; want %d", c.name, len(s), len(l), e, c.want)
		}
		if !slices.Equal(c.l, old) {
			t.Errorf("%s: the tokens are changed", c.name)
		}
	}
}
