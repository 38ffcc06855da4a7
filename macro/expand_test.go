package macro_test

import (
	"math"
	"math/rand"
	"slices"
	"strings"
	"testing"

	"smocking/api"
	"smocking/lex"
	"smocking/macro"
)

func TestExpand(t *testing.T) {
	for _, c := range []struct {
		line string
		args []string
		want string
	}{
		{"#define F 1+2", nil, "1 + 2"},
		{"#define F", []string{}, ""},
		{"#define F (a) a", nil, "( a ) a"},
		{"#define F() x()", nil, "x ( )"},
		{"#define F(a) a+1", []string{"b"}, "b + 1"},
		{"#define F(a) a+1", []string{"b * (c, d)"}, "b * (c, d) + 1"},
		{"#define F(a) ab a a.a \"a\" 'a' /* a */ a1", []string{"b"}, "ab b b . b \"a\" 'a' a1"},
		{"#define F(a,b) a b a", []string{"b", "a"}, "b a b"},
		{"#define F(a,b) a b", []string{"a b", "c"}, "a b c"},
		{"#define F(a) F a", []string{"F"}, "F F"},
		{"#define F(F) F", []string{"x"}, "x"},
		{"#define F(a) a + a", []string{""}, "+"},
		{"#define F(a,b) a x b", []string{"", ""}, "x"},
		{"#define F(a) a a", []string{""}, ""},
		{"#define F(a) x a y", []string{" "}, "x   y"},
		{"#define F(a,a) a", []string{"1", "2"}, "1"},
		{"#define F(a,b,a) a b", []string{"", "2", "3"}, "2"},
		{"#define F(...) f(__VA_ARGS__)", []string{"1", "2", "3"}, "f ( 1, 2, 3 )"},
		{"#define F(...) f(__VA_ARGS__)", []string{"1"}, "f ( 1 )"},
		{"#define F(...) f(__VA_ARGS__)", nil, "f ( )"},
		{"#define F(...) f(__VA_ARGS__)", []string{"", ""}, "f ( ,  )"},
		{"#define F(a, ...) a ... __VA_ARGS__ a", []string{"x"}, "x ... x"},
		{"#define F(a, ...) a ... __VA_ARGS__ a", []string{"x", "a", "x y"}, "x ... a, x y x"},
		{"#define F(__VA_ARGS__, ...) __VA_ARGS__", []string{"1", "2"}, "1"},
		{"#define F(a) __VA_ARGS__ a", []string{"1"}, "__VA_ARGS__ 1"},
		{"#define F(a) #a##a", []string{"x"}, "# x # # x"},
		{"#define F(a) ' \\\n ' a", []string{"x"}, "' ' x"},
		{"#define F(a) \\\n \"a  b\" @ a", []string{"x"}, "\"a  b\" @ x"},
	} {
		if got, e := macro.Expand([]api.Token{line(c.line)}, "F", c.args, 1); e != api.OK || got != c.want {
			t.Errorf("Expand(%q, %q) = %q, %d; want %q", c.line, c.args, got, e, c.want)
		}
	}
}

func TestExpandErrors(t *testing.T) {
	for _, c := range []struct {
		line string
		args int
		want api.Errno
	}{
		{"#define F 1", 1, api.ErrForm}, {"#define F (a) a", 1, api.ErrForm}, {"#define F() 1", 1, api.ErrForm},
		{"#define F(a) a", 0, api.ErrForm}, {"#define F(a) a", 2, api.ErrForm}, {"#define F(a,a) a", 1, api.ErrForm},
		{"#define F(a,b) a", 1, api.ErrForm}, {"#define F(a,b) a", 3, api.ErrForm}, {"#define F(a,...) a", 0, api.ErrForm},
		{"#define F(a,b,...) a", 1, api.ErrForm}, {"#define F(a,b,...) a", 2, api.OK}, {"#define F(...) 1", 0, api.OK},
		{"#define G 1", 0, api.ErrNone}, {"#define G(F) F", 1, api.ErrNone}, {"#undef F", 0, api.ErrNone}, {"#define F(", 0, api.ErrNone},
		{"#pragma F", 0, api.ErrNone}, {"#undef F", 1, api.ErrNone},
	} {
		got, e := macro.Expand([]api.Token{line(c.line)}, "F", make([]string, c.args), 1)
		if e != c.want || e != api.OK && got != "" {
			t.Errorf("Expand(%q) with %d = %q, %d; want %d", c.line, c.args, got, e, c.want)
		}
	}
	for _, at := range []int{math.MinInt, -1, 0, math.MaxInt} {
		if got, e := macro.Expand(nil, "", nil, at); got != "" || e != api.ErrNone {
			t.Errorf("Expand of nothing at %d = %q, %d", at, got, e)
		}
	}
}

func TestExpandAtPlaces(t *testing.T) {
	l := scan(t, "#define F 1\nF\n#define F(a) a\nF\n#undef F\nF\n")
	for _, c := range []struct {
		at   int
		args []string
		want string
		e    api.Errno
	}{
		{-1, nil, "", api.ErrNone}, {0, nil, "", api.ErrNone}, {1, nil, "1", api.OK}, {2, nil, "1", api.OK}, {2, []string{"x"}, "", api.ErrForm},
		{3, []string{"x"}, "x", api.OK}, {3, nil, "", api.ErrForm}, {4, []string{"x"}, "x", api.OK}, {5, []string{"x"}, "", api.ErrNone},
		{math.MinInt, nil, "", api.ErrNone}, {math.MinInt, []string{"x"}, "", api.ErrNone}, {math.MinInt + 1, nil, "", api.ErrNone},
		{1 << 62, nil, "", api.ErrNone}, {math.MaxInt, nil, "", api.ErrNone},
	} {
		if got, e := macro.Expand(l, "F", c.args, c.at); got != c.want || e != c.e {
			t.Errorf("Expand(F, %q, %d) = %q, %d; want %q, %d", c.args, c.at, got, e, c.want, c.e)
		}
	}
}

// TestExpandLimits expands as many words as a directive may have, and with more than one's text may have.
func TestExpandLimits(t *testing.T) {
	names := strings.Repeat("a;", (api.MaxTokens-6)/2)
	long := strings.Repeat("x", 1000)
	l := []api.Token{line("#define F(a)" + names)}
	got, e := macro.Expand(l, "F", []string{long}, 1)
	if want := strings.Repeat(long+" ; ", len(names)/2); e != api.OK || got+" " != want {
		t.Errorf("%d bytes, %d; want %d", len(got), e, len(want)-1)
	}
	l = []api.Token{line("#define F(a)" + names + ";")}
	if got, e := macro.Expand(l, "F", []string{long}, 1); got != "" || e != api.ErrNone {
		t.Errorf("beyond: %d bytes, %d", len(got), e)
	}
}

// TestExpandWithoutParameters asks for the body (P4.6).
func TestExpandWithoutParameters(t *testing.T) {
	r := rand.New(rand.NewSource(2))
	pieces := []string{"A", "if", "1.5", "'", "\"", "\\", " ", "/*", "*/", "#", "&&", "(", ")", "...", "@", "\\\n", "b"}
	for range 3000 {
		text := "#define F(p, q) "
		for range r.Intn(12) {
			text += pieces[r.Intn(len(pieces))]
		}
		l := []api.Token{line(text)}
		d, ok := macro.Define(l[0])
		got, e := macro.Expand(l, "F", []string{"x", "y"}, 1)
		if !ok || e != api.OK || got != d.Body {
			t.Fatalf("Expand(%q) = %q, %d; want %q", text, got, e, d.Body)
		}
	}
}

// TestExpandAsMade holds expansions against words that their maker exchanges.
func TestExpandAsMade(t *testing.T) {
	r := rand.New(rand.NewSource(3))
	words := []string{"a", "b", "c", "__VA_ARGS__", "+", "1", "\"a b\"", "f", "(", ")", ",", "...", "#", "if"}
	for range 3000 {
		params := []string{"a", "b", "a"}[:r.Intn(4)]
		args := make([]string, len(params))
		if hasOthers := r.Intn(2) == 0; hasOthers {
			params = append(slices.Clone(params), "...")
			args = append(args, make([]string, r.Intn(3))...)
		}
		for i := range args {
			args[i] = []string{"", "a", "b", "x y", "c, __VA_ARGS__"}[r.Intn(5)]
		}
		text, want := "#define F("+strings.Join(params, ",")+")", []string{}
		for range r.Intn(8) {
			word := words[r.Intn(len(words))]
			text += " " + word
			if got := plainWord(word, params, args); got != "" {
				want = append(want, got)
			}
		}
		l := []api.Token{line(text)}
		if got, e := macro.Expand(l, "F", args, 1); e != api.OK || got != strings.Join(want, " ") {
			t.Fatalf("Expand(%q, %q) = %q, %d; want %q", text, args, got, e, want)
		}
	}
}

// plainWord tells what a word becomes.
func plainWord(word string, params, args []string) string {
	if i := slices.Index(params, word); i >= 0 && word != "..." {
		return args[i]
	}
	if word == "__VA_ARGS__" && slices.Contains(params, "...") {
		return strings.Join(args[len(params)-1:], ", ")
	}
	return word
}

// TestExpandChangesNothing looks at arguments behind the call.
func TestExpandChangesNothing(t *testing.T) {
	l, _ := lex.Scan("#define F(a, ...) a __VA_ARGS__\n")
	tokens := slices.Clone(l)
	args := []string{"1", "2", "3"}
	macro.Expand(l, "F", args[:2], 1)
	if !slices.Equal(l, tokens) || !slices.Equal(args, []string{"1", "2", "3"}) {
		t.Errorf("changed: %v, %v", l, args)
	}
}
