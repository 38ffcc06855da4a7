package macro_test

import (
	"math"
	"math/rand"
	"reflect"
	"slices"
	"strings"
	"testing"

	"smocking/api"
	"smocking/lex"
	"smocking/macro"
)

// scan returns the tokens of a text that has some.
func scan(t *testing.T, s string) []api.Token {
	t.Helper()
	l, e := lex.Scan(s)
	if e != api.OK {
		t.Fatalf("Scan(%.80q): %d", s, e)
	}
	return l
}

func line(s string) api.Token {
	return api.Token{Kind: api.KLine, Text: s, At: 7}
}

// sameDef tells whether two definitions are the same, no parameters being nil or empty.
func sameDef(a, b macro.Def) bool {
	same := slices.Equal(a.Params, b.Params)
	a.Params, b.Params = nil, nil
	return same && reflect.DeepEqual(a, b)
}

func TestDefine(t *testing.T) {
	for _, c := range []struct {
		line string
		want macro.Def
	}{
		{"#define A", macro.Def{Name: "A"}},
		{"#define a_1 2", macro.Def{Name: "a_1", Body: "2"}},
		{"#define A  1+2 /* b */ ,// c", macro.Def{Name: "A", Body: "1 + 2 ,"}},
		{"# \t define/**/A/**/1", macro.Def{Name: "A", Body: "1"}},
		{"#define A \\\n 1 \\\r\n 2", macro.Def{Name: "A", Body: "1 2"}},
		{"#define A\"b  c\"'d'1.5", macro.Def{Name: "A", Body: "\"b  c\" 'd' 1.5"}},
		{"#define A#b##c @ '", macro.Def{Name: "A", Body: "# b # # c @ '"}},
		{"#define A int", macro.Def{Name: "A", Body: "int"}},
		{"#define defined 1", macro.Def{Name: "defined", Body: "1"}},
		{"#define F(a) a+1", macro.Def{Name: "F", Fun: true, Params: []string{"a"}, Body: "a + 1"}},
		{"#define F()", macro.Def{Name: "F", Fun: true}},
		{"#define F( )x", macro.Def{Name: "F", Fun: true, Body: "x"}},
		{"#define F( /**/ a \\\n , b ) b-a", macro.Def{Name: "F", Fun: true, Params: []string{"a", "b"}, Body: "b - a"}},
		{"#define F(a,a) a", macro.Def{Name: "F", Fun: true, Params: []string{"a", "a"}, Body: "a"}},
		{"#define F(F) F", macro.Def{Name: "F", Fun: true, Params: []string{"F"}, Body: "F"}},
		{"#define F(...) __VA_ARGS__", macro.Def{Name: "F", Fun: true, Params: []string{"..."}, Body: "__VA_ARGS__"}},
		{"#define F(a, ...) a", macro.Def{Name: "F", Fun: true, Params: []string{"a", "..."}, Body: "a"}},
		{"#define F(a)(b)", macro.Def{Name: "F", Fun: true, Params: []string{"a"}, Body: "( b )"}},
		{"#define F(a) ( a", macro.Def{Name: "F", Fun: true, Params: []string{"a"}, Body: "( a"}},
		{"#define F (a) a", macro.Def{Name: "F", Body: "( a ) a"}},
		{"#define F/**/(a) a", macro.Def{Name: "F", Body: "( a ) a"}},
		{"#define F\\\n(a) a", macro.Def{Name: "F", Body: "( a ) a"}},
		{"#define F (", macro.Def{Name: "F", Body: "("}},
		{"#define F[a]", macro.Def{Name: "F", Body: "[ a ]"}},
		{"#undef A", macro.Def{Name: "A", Gone: true}},
		{"# undef /* x */ A // y", macro.Def{Name: "A", Gone: true}},
		{"#undef F(a) 1", macro.Def{Name: "F", Gone: true}},
	} {
		if got, ok := macro.Define(line(c.line)); !ok || !sameDef(got, c.want) {
			t.Errorf("Define(%q) = %+v, %v; want %+v", c.line, got, ok, c.want)
		}
	}
}

func TestDefineOfOthers(t *testing.T) {
	for _, x := range []api.Token{
		{}, {Kind: api.KLine}, line(""), line("#"), line("#define"), line("#define // A"), line("#undef"),
		line("define A"), line(" #define A"), line("#DEFINE A"), line("#defined A"), line("#if define A"), line("##define A"),
		line("#define int x"), line("#undef int"), line("#define 1 x"), line("#define \"A\""), line("#undef 'A'"), line("#define (A)"),
		line("#define F("), line("#define F(a"), line("#define F(a,"), line("#define F(a,)"), line("#define F(,)"), line("#define F(,a)"),
		line("#define F(a b) a"), line("#define F(a;b) a"), line("#define F(1) 1"), line("#define F(int) int"), line("#define F((a)) a"),
		line("#define F(..., a) a"), line("#define F(a...) a"), line("#define F(... a) a"), line("#define F(...,) 1"),
		line("#define F(...,...) 1"), line("#define F(..) 1"), line("#define F(a] a"), line("#define F(\"a\") a"), line("#define F(...] 1"),
		{Kind: api.KName, Text: "#define A 1"}, {Kind: api.KSign, Text: "#"}, {Kind: api.KEnd, Text: "#define A"},
	} {
		if got, ok := macro.Define(x); ok || !sameDef(got, macro.Def{}) {
			t.Errorf("Define(%q of kind %d) = %+v, %v", x.Text, x.Kind, got, ok)
		}
	}
}

func TestDefineLimits(t *testing.T) {
	body := strings.Repeat(";", api.MaxTokens-3)
	got, ok := macro.Define(line("#define A " + body))
	if !ok || got.Body != strings.TrimSuffix(strings.Repeat("; ", len(body)), " ") {
		t.Errorf("a body of %d words: %d bytes, %v", len(body), len(got.Body), ok)
	}
	if got, ok := macro.Define(line("#define A " + body + ";")); ok || !sameDef(got, macro.Def{}) {
		t.Errorf("a body of %d words: %d bytes, %v", len(body)+1, len(got.Body), ok)
	}
	long := strings.Repeat("b", api.MaxText-len("define A "))
	if got, ok := macro.Define(line("#define A " + long)); !ok || got.Body != long {
		t.Errorf("a body of %d bytes: %d, %v", len(long), len(got.Body), ok)
	}
	if got, ok := macro.Define(line("#define A " + long + "b")); ok || !sameDef(got, macro.Def{}) {
		t.Errorf("a body of %d bytes: %d, %v", len(long)+1, len(got.Body), ok)
	}
}

func TestDefs(t *testing.T) {
	for _, c := range []struct {
		text string
		want []macro.Def
	}{
		{"", nil}, {"A #define B", nil}, {"#if A\n#include <b>\n#define 1\n#endif\n", nil},
		{"x\n#define A 1\ny #define B\n#undef C\n#define F(a,b) A\n", []macro.Def{
			{Name: "A", At: 1, Body: "1"}, {Name: "C", At: 6, Gone: true}, {Name: "F", At: 7, Fun: true, Params: []string{"a", "b"}, Body: "A"},
		}},
		{"#if 0\n#define A 1\n#else\n#define A 2\n#undef A\n#endif", []macro.Def{
			{Name: "A", At: 1, Body: "1"}, {Name: "A", At: 3, Body: "2"}, {Name: "A", At: 4, Gone: true},
		}},
		{"#define A 1\n#define A(\n#define A", []macro.Def{{Name: "A", Body: "1"}, {Name: "A", At: 2}}},
	} {
		if got := macro.Defs(scan(t, c.text)); !slices.EqualFunc(got, c.want, sameDef) {
			t.Errorf("Defs(%q) = %+v; want %+v", c.text, got, c.want)
		}
	}
	if got := macro.Defs(nil); len(got) > 0 {
		t.Errorf("Defs of nothing = %v", got)
	}
}

func TestFind(t *testing.T) {
	l := scan(t, "A\n#define A 1\nA\n#if 0\n#define A(b) b\n#else\n#define A(\n#undef A\n#endif\nA\n#define B A\n#define A 3\n")
	none, first, second := macro.Def{}, macro.Def{Name: "A", At: 1, Body: "1"}, macro.Def{Name: "A", At: 4, Fun: true, Params: []string{"b"}, Body: "b"}
	third := macro.Def{Name: "A", At: 11, Body: "3"}
	want := []macro.Def{none, none, first, first, first, second, second, second, none, none, none, none, third, third}
	for at, w := range want {
		if got, ok := macro.Find(l, "A", at); ok != (w.Name != "") || !sameDef(got, w) {
			t.Errorf("Find(A, %d) = %+v, %v; want %+v", at, got, ok, w)
		}
	}
	for _, c := range []struct {
		name string
		at   int
		ok   bool
	}{
		{"A", -1, false}, {"A", -1 << 62, false}, {"A", math.MinInt + 1, false}, {"A", math.MinInt, false}, {"", math.MinInt, false},
		{"A", 1 << 62, true}, {"A", math.MaxInt, true}, {"B", 10, false}, {"B", 11, true}, {"C", 13, false}, {"", 13, false}, {"b", 13, false},
	} {
		if got, ok := macro.Find(l, c.name, c.at); ok != c.ok || got.Name != "" != c.ok || !ok && !sameDef(got, none) {
			t.Errorf("Find(%q, %d) = %+v, %v", c.name, c.at, got, ok)
		}
	}
	for _, at := range []int{math.MinInt, -1, 0, 1, math.MaxInt} {
		if got, ok := macro.Find(nil, "A", at); ok || !sameDef(got, none) {
			t.Errorf("Find(A, %d) of nothing = %+v, %v", at, got, ok)
		}
	}
}

var someDefinitions = []string{
	"#define A 1", "#define A(a) a + A", "#define B(a,...) a(__VA_ARGS__)", "#undef A", "#undef B x", "#define B(", "#define B", "#if A", "#else",
	"#endif", "#undef 1", "#define int 1", "# define  C A", "x", "A;", "#pragma define A",
}

func someDefinitionLines(r *rand.Rand) string {
	text := ""
	for range r.Intn(12) {
		text += someDefinitions[r.Intn(len(someDefinitions))] + "\n"
	}
	return text
}

// TestFindIsOfDefs holds Find against the last of Defs before a place, and asks that none behind it counts (P4.6).
func TestFindIsOfDefs(t *testing.T) {
	r := rand.New(rand.NewSource(1))
	for range 500 {
		text := someDefinitionLines(r)
		l := scan(t, text)
		defs := macro.Defs(l)
		for at := range len(l) + 1 {
			for _, name := range []string{"A", "B", "C", "D"} {
				want := macro.Def{}
				for _, d := range defs {
					if d.Name == name && d.At < at {
						want = d
					}
				}
				if want.Gone {
					want = macro.Def{}
				}
				got, ok := macro.Find(l, name, at)
				if ok != (want.Name != "") || !sameDef(got, want) {
					t.Fatalf("Find(%q, %s, %d) = %+v, %v; want %+v", text, name, at, got, ok, want)
				}
				if short, known := macro.Find(l[:at], name, at); known != ok || !sameDef(short, got) {
					t.Fatalf("Find(%q, %s, %d) = %+v; without what is behind %+v", text, name, at, got, short)
				}
			}
		}
	}
}

// TestDefsShareNothing changes a result, which must change no other one.
func TestDefsShareNothing(t *testing.T) {
	l := scan(t, "#define F(a,b) a b\n")
	defs := macro.Defs(l)
	defs[0].Params[0] = "x"
	found, _ := macro.Find(l, "F", 1)
	if !slices.Equal(found.Params, []string{"a", "b"}) || !slices.Equal(macro.Defs(l)[0].Params, []string{"a", "b"}) {
		t.Errorf("parameters of F: %v, %v", found.Params, macro.Defs(l))
	}
}
