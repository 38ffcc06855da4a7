package macro_test

import (
	"math/rand"
	"regexp"
	"slices"
	"strings"
	"testing"

	"smocking/api"
	"smocking/cond"
	"smocking/lex"
	"smocking/macro"
)

// first returns the tokens of a text, and the view of first branches.
func first(t *testing.T, s string) ([]api.Token, []int) {
	t.Helper()
	l := scan(t, s)
	view, e := cond.First(l)
	if e != api.OK {
		t.Fatalf("First(%.80q): %d", s, e)
	}
	return l, view
}

// placeOf returns the place in a view of the first token with a text.
func placeOf(l []api.Token, view []int, text string) int {
	return slices.IndexFunc(view, func(at int) bool { return l[at].Text == text })
}

func TestKinds(t *testing.T) {
	if kinds := []int{macro.Value, macro.Loop, macro.Statement, macro.Attribute, macro.Declarer}; !slices.Equal(kinds, []int{0, 1, 2, 3, 4}) {
		t.Errorf("kinds: %v", kinds)
	}
}

func TestGuess(t *testing.T) {
	for _, c := range []struct {
		text string
		want int
	}{
		{"{ X(x) { f(); } }", macro.Loop}, {"{ X(x) }", macro.Statement}, {"; X(x) {", macro.Loop}, {"{ } X() {", macro.Loop}, {"if (a) X(b) { }", macro.Loop},
		{"else X(b) {", macro.Loop}, {"do X(b) {", macro.Loop}, {"a: X(b) {", macro.Loop}, {"X(b) {", macro.Value}, {"x X(b) {", macro.Attribute}, {"+ X(b) {", macro.Value},
		{"{ X {", macro.Statement}, {"{ X(a {", macro.Value}, {"= X(a) {", macro.Value}, {"{ X(a); {", macro.Value},
		{"{ X(a) x = 1; }", macro.Statement}, {"{ X(a) if (x) ; }", macro.Statement}, {"{ X(a) else ;", macro.Value}, {"do X(a) while (x);", macro.Value},
		{"do X(a) }", macro.Statement}, {"else X(a) int b;", macro.Statement}, {"b: X(a) *c = 1;", macro.Statement}, {"{ X(a) ++b;", macro.Statement},
		{"{ X(a) --b;", macro.Statement}, {"{ X(a) (b)", macro.Value}, {"{ X(a);", macro.Value}, {"{ x; X(a) }", macro.Statement}, {"{ } x; X(a) }", macro.Declarer},
		{"if (a) X(b) c;", macro.Value}, {"{ X(a) 1", macro.Value}, {"{ X(a) \"b\"", macro.Value},
		{"{ X }", macro.Statement}, {"{ X if (x) ;", macro.Statement}, {"{ X ++b;", macro.Statement}, {"{ X --b;", macro.Statement}, {"{ X b;", macro.Value},
		{"{ X *b;", macro.Value}, {"{ X int b;", macro.Value}, {"{ X typedef", macro.Statement}, {"{ X sizeof", macro.Statement}, {"{ X else", macro.Value},
		{"{ X while", macro.Value}, {"{ X enum", macro.Value}, {"{ X ;", macro.Value}, {"{ X = 1;", macro.Value}, {"{ X", macro.Value},
		{"f() X;", macro.Attribute}, {"f() X(1) {", macro.Loop}, {"f() X {", macro.Attribute}, {"f() X(1);", macro.Attribute}, {"int a X = 1;", macro.Attribute}, {"int a[3] X, b;", macro.Attribute},
		{"a X(1, 2) = 1", macro.Attribute}, {"int X;", macro.Value}, {"f() X }", macro.Value}, {"f() X(1", macro.Value}, {"f() X", macro.Value},
		{"X int a;", macro.Attribute}, {"X a b;", macro.Attribute}, {"X(1) int a;", macro.Declarer}, {"; X static a;", macro.Attribute}, {"{ ; X int a;", macro.Attribute},
		{"{ } X extern a;", macro.Attribute}, {"{ X int a;", macro.Value}, {"{ ; X(1) int a;", macro.Statement}, {"X return;", macro.Value}, {"X * a;", macro.Value},
		{"X(a)", macro.Declarer}, {"X(a);", macro.Declarer}, {"; X(a) b", macro.Declarer}, {"} X() }", macro.Declarer}, {"X(a) {", macro.Value}, {"; X(a) {", macro.Loop},
		{"} X(a) {", macro.Loop}, {") X(a);", macro.Attribute}, {"{ } X(a) = 1;", macro.Declarer}, {"{ ; X(a) = 1;", macro.Value}, {"} } { ; X(a);", macro.Value},
		{"} } { } ; X(a);", macro.Declarer}, {"( [ ; X(a);", macro.Declarer}, {"X", macro.Value}, {"X;", macro.Value}, {"a + X(b) * 2", macro.Value},
	} {
		for _, name := range []string{"FOR_1", "foo", "Foo", "_"} {
			want := c.want
			if name != "FOR_1" && want != macro.Loop {
				want = macro.Value
			}
			text := strings.Replace(c.text, "X", name, 1)
			l, view := first(t, text)
			if got, e := macro.Guess(l, view, placeOf(l, view, name)); e != api.OK || got != want {
				t.Errorf("Guess(%q) = %d, %d; want %d", text, got, e, want)
			}
		}
	}
}

func TestCall(t *testing.T) {
	for _, c := range []struct {
		text string
		want int
	}{
		{"X", 1}, {"X y", 1}, {"X ()", 3}, {"X(a)", 4}, {"X /* a */ \n ( b , c ) d", 6}, {"X(a(b)(c))(d)", 10}, {"X(a", 1}, {"X(", 1}, {"X(a(b)", 1},
		{"X)", 1}, {"X[(a)]", 1}, {"X { }", 1}, {"X({[a)}]", 6}, {"X(\")\")", 4}, {"X(')' /* ) */ ;)", 5},
		{"X\n#if A\n(a)\n#else\n(b, c)\n#endif\n(d)", 4}, {"X(a\n#if A\n)\n#endif\n)", 4}, {"X(a\n#define B )\n)", 4},
	} {
		for _, before := range []string{"", "a ", "( ", "\n#if B\n#endif\n) "} {
			l, view := first(t, before+c.text)
			k := placeOf(l, view, "X")
			if got, e := macro.Call(l, view, k); e != api.OK || got != k+c.want {
				t.Errorf("Call(%q) = %d, %d; want %d", before+c.text, got, e, k+c.want)
			}
		}
	}
}

func TestGuessAndCallErrors(t *testing.T) {
	l := scan(t, "A (\n#define B\nC 1 int) ;")
	for _, c := range []struct {
		view []int
		k    int
		want api.Errno
	}{
		{[]int{0, 1, 3, 4, 5, 6, 7, 8}, 0, api.OK}, {[]int{0, 3, 8}, 1, api.OK}, {[]int{0}, 0, api.OK}, {[]int{0, 8}, 0, api.OK},
		{[]int{0, 0}, 0, api.ErrForm}, {[]int{1, 0}, 1, api.ErrForm}, {[]int{0, 3, 1}, 0, api.ErrForm}, {[]int{-1, 0}, 1, api.ErrForm},
		{[]int{0, 9}, 0, api.ErrForm}, {[]int{0, 1 << 62}, 0, api.ErrForm}, {[]int{1, 0}, -1, api.ErrForm},
		{[]int{-5}, 0, api.ErrForm}, {[]int{9}, 1, api.ErrForm}, {[]int{0, 2, 2}, 0, api.ErrForm}, {[]int{2, 0}, 1, api.ErrForm}, {[]int{2, 9}, 0, api.ErrForm},
		{[]int{0, 2, 3}, 0, api.OK}, {[]int{0, 2, 3}, 2, api.OK}, {[]int{2, 3}, 1, api.OK}, {[]int{0, 2, 3}, 1, api.ErrNone}, {[]int{2}, 0, api.ErrNone},
		{[]int{2}, 1, api.ErrRange}, {[]int{2}, -1, api.ErrRange}, {[]int{0, 2, 3}, 3, api.ErrRange},
		{nil, 0, api.ErrRange}, {[]int{0}, 1, api.ErrRange}, {[]int{0}, -1, api.ErrRange}, {[]int{1}, 1 << 62, api.ErrRange}, {[]int{1}, -1 << 63, api.ErrRange},
		{[]int{0, 1, 3}, 1, api.ErrNone}, {[]int{4}, 0, api.ErrNone}, {[]int{5}, 0, api.ErrNone}, {[]int{0, 8}, 1, api.ErrNone},
	} {
		if got, e := macro.Guess(l, c.view, c.k); e != c.want || e != api.OK && got != 0 {
			t.Errorf("Guess(%v, %d) = %d, %d; want %d", c.view, c.k, got, e, c.want)
		}
		if got, e := macro.Call(l, c.view, c.k); e != c.want || e != api.OK && got != 0 {
			t.Errorf("Call(%v, %d) = %d, %d; want %d", c.view, c.k, got, e, c.want)
		}
	}
	empty := scan(t, "")
	if got, e := macro.Guess(empty, []int{0}, 0); got != 0 || e != api.ErrNone {
		t.Errorf("Guess of the empty text = %d, %d", got, e)
	}
	if got, e := macro.Call(nil, nil, 0); got != 0 || e != api.ErrRange {
		t.Errorf("Call of nothing = %d, %d", got, e)
	}
}

// TestGuessAmidLines has views with all tokens, directives too, which are none of the things told, whatever their text.
func TestGuessAmidLines(t *testing.T) {
	for _, c := range []struct {
		text   string
		want   int
		behind int
	}{
		{"X\n#x\n", macro.Value, 1}, {"#x\nX\n", macro.Value, 1}, {"#x\nX int a;", macro.Value, 1}, {"#x\nX(a);", macro.Value, 4}, {"int a;\n#x\nX(a);", macro.Value, 4},
		{"{ X(a)\n#x\n{", macro.Value, 4}, {"{\n#x\nX(a) {", macro.Value, 4}, {"f()\n#x\nX;", macro.Value, 1}, {"f() X\n#x\n;", macro.Value, 1},
		{"{ X\n#x\n}", macro.Value, 1}, {"{\n#x\nX }", macro.Value, 1}, {"{ X\n#x\n(a) {", macro.Value, 1}, {"X(a)\n#{\n;", macro.Declarer, 4},
		{"X(a\n#)\n, b) ;", macro.Declarer, 7}, {"X(a\n#(\n) ;", macro.Declarer, 5}, {"#{\n; X(a);", macro.Declarer, 4}, {"{\n#}\n; X(a) b", macro.Statement, 4},
		{"{\n#x\n; X(a) {", macro.Loop, 4}, {"f()\n#x\nint a X = 1;", macro.Attribute, 1},
	} {
		l := scan(t, c.text)
		all := make([]int, len(l))
		bare := slices.Clone(l)
		for i := range all {
			all[i] = i
			bare[i].Text = strings.TrimPrefix(l[i].Text, "#")
		}
		k := placeOf(l, all, "X")
		for _, tokens := range [][]api.Token{l, bare} {
			if got, e := macro.Guess(tokens, all, k); e != api.OK || got != c.want {
				t.Errorf("Guess(%v) = %d, %d; want %d", tokens, got, e, c.want)
			}
			if got, e := macro.Call(tokens, all, k); e != api.OK || got != k+c.behind {
				t.Errorf("Call(%v) = %d, %d; want %d", tokens, got, e, k+c.behind)
			}
		}
	}
}

// TestGuessLimit has as many tokens as a text may have.
func TestGuessLimit(t *testing.T) {
	inside := strings.Repeat("{", api.MaxTokens-5)
	l, view := first(t, inside+";X()")
	if len(l) != api.MaxTokens {
		t.Fatalf("%d tokens", len(l))
	}
	k := len(view) - 4
	if got, e := macro.Guess(l, view, k); got != macro.Value || e != api.OK {
		t.Errorf("inside: %d, %d", got, e)
	}
	l, view = first(t, strings.ReplaceAll(inside, "{", "}")+";X()")
	if got, e := macro.Guess(l, view, k); got != macro.Declarer || e != api.OK {
		t.Errorf("outside: %d, %d", got, e)
	}
	l, view = first(t, "X"+strings.Repeat("(", api.MaxTokens/2-1)+strings.Repeat(")", api.MaxTokens/2-1))
	if got, e := macro.Call(l, view, 0); got != api.MaxTokens-1 || e != api.OK {
		t.Errorf("a deep call: %d, %d", got, e)
	}
	if got, e := macro.Call(l, view[:len(view)-2], 0); got != 1 || e != api.OK {
		t.Errorf("an open call: %d, %d", got, e)
	}
}

// plainUse is a use with what stands around it, each a token's text. Nothing is the empty text.
type plainUse struct {
	before, last, name, call, next string
}

var (
	capitalForm = regexp.MustCompile(`^[A-Z_][A-Z0-9_]*$`)
	noBraceForm = regexp.MustCompile(`[^{}]`)
)

func oneOf(word, words string) bool {
	return word != "" && strings.Contains(" "+words+" ", " "+word+" ")
}

// kind is the chapter's list of kinds.
func (u plainUse) kind() int {
	if u.call == "( a ( b )" && u.next == ")" {
		u.next = ""
	} else if u.call == "( a ( b )" {
		u.call, u.next = "", "("
	}
	const typeKeys = "char const int long short signed struct union unsigned void volatile static extern enum"
	capital := capitalForm.MatchString(u.name) && strings.ContainsAny(u.name, "FO")
	name := lex.IsName(u.next)
	key := slices.Contains(lex.Keys(), u.next)
	call := u.call != ""
	braces := noBraceForm.ReplaceAllString(u.before+u.last, "")
	for strings.Contains(braces, "{}") {
		braces = strings.ReplaceAll(braces, "{}", "")
	}
	outermost := !strings.Contains(braces, "{")
	if call && u.next == "{" && oneOf(u.last, "; { } ) else do :") {
		return 1
	}
	if call && outermost && capital && (u.last == "" || oneOf(u.last, "; }")) && u.next != "{" {
		return 4
	}
	if oneOf(u.last, "; { } else do :") && capital && (name || key && !oneOf(u.next, "else while") || oneOf(u.next, "{ } * ++ --")) {
		if call || !name && !oneOf(u.next, "* "+typeKeys) {
			return 2
		}
	}
	if capital && (oneOf(u.last, ") ]") || lex.IsName(u.last)) && oneOf(u.next, "; { , =") {
		return 3
	}
	if capital && !call && (name || oneOf(u.next, typeKeys)) && (u.last == "" || oneOf(u.last, "; }")) {
		return 3
	}
	return 0
}

// text has the first token of the use at a place.
func (u plainUse) text() (text string, at int) {
	ahead := strings.Fields(u.before + " " + u.last)
	all := append(slices.Clone(ahead), u.name, u.call, u.next)
	return "x \n\f" + strings.Join(all, " "), len(ahead)
}

// TestGuessAsSaid holds all that may stand around a use against the chapter's list. What stands before the one token
// seen before the use is chosen by chance.
func TestGuessAsSaid(t *testing.T) {
	r := rand.New(rand.NewSource(4))
	around := slices.Concat(lex.Signs(), lex.Keys(), []string{"x", "X", "1", "\"s\"", "'c'", "@", ""})
	count := map[int]int{}
	for _, last := range around {
		for _, next := range around {
			for _, name := range []string{"FOO", "_F_1", "fOO", "F1o", "_1"} {
				for _, call := range []string{"", "( )", "( a { ( b ) ; )", "( a ( b )"} {
					u := plainUse{last: last, name: name, call: call, next: next}
					if last != "" {
						u.before = []string{"", "x", "x ; {", "{ }", "} {", "{ {", "( {"}[r.Intn(7)]
					}
					text, at := u.text()
					l := scan(t, text)
					view := make([]int, len(l)-1)
					for i := range view {
						view[i] = i + 1
					}
					got, e := macro.Guess(l, view, at)
					if e != api.OK || got != u.kind() {
						t.Fatalf("Guess(%q, %d) = %d, %d; want %d", text, at, got, e, u.kind())
					}
					count[got]++
				}
			}
		}
	}
	if len(count) != 5 {
		t.Errorf("kinds: %v", count)
	}
}

var somePieces = strings.Fields("FOO BAR foo ( ) ( ) ( ) { } { } ; ; , = * ++ if else do while int static x : [ ] 1 \"s\" return F(a) G()")

// someView makes a text with branches and comments, and a choice of its tokens, now and then with directives among them.
func someView(t *testing.T, r *rand.Rand) ([]api.Token, []int) {
	text := ""
	for range r.Intn(40) {
		text += []string{" ", "\n", "/* ; { */", "\t// FOO(\n", "\n#if A\n FOO ( ; \n#else\n } ;\n#endif\n", "\n#define FOO\n", "\n#undef BAR\n"}[max(0, r.Intn(30)-23)]
		text += somePieces[r.Intn(len(somePieces))]
	}
	l := scan(t, text)
	withLines := r.Intn(4) == 0
	var view []int
	for i, x := range l {
		if (x.Kind != api.KLine || withLines) && r.Intn(12) > 0 {
			view = append(view, i)
		}
	}
	return l, view
}

// TestGuessOfWhatIsSeen leaves out all that is not seen, and comments (P4.5).
func TestGuessOfWhatIsSeen(t *testing.T) {
	r := rand.New(rand.NewSource(5))
	for range 2000 {
		l, view := someView(t, r)
		var bare []api.Token
		var all []int
		for i, at := range view {
			bare = append(bare, api.Token{Kind: l[at].Kind, Text: l[at].Text})
			all = append(all, i)
		}
		for k := range view {
			got, e := macro.Guess(l, view, k)
			if want, bad := macro.Guess(bare, all, k); got != want || e != bad {
				t.Fatalf("Guess(%q, %v, %d) = %d, %d; want %d, %d", lex.Text(l), view, k, got, e, want, bad)
			}
			end, e := macro.Call(l, view, k)
			if want, bad := macro.Call(bare, all, k); end != want || e != bad {
				t.Fatalf("Call(%q, %v, %d) = %d, %d; want %d, %d", lex.Text(l), view, k, end, e, want, bad)
			}
		}
	}
}

// TestGuessChangesNothing looks at the arguments behind the calls.
func TestGuessChangesNothing(t *testing.T) {
	r := rand.New(rand.NewSource(6))
	for range 100 {
		l, view := someView(t, r)
		tokens, places := slices.Clone(l), slices.Clone(view)
		for k := range view {
			macro.Guess(l, view, k)
			macro.Call(l, view, k)
		}
		macro.Unknown(l, view)
		if !slices.Equal(l, tokens) || !slices.Equal(view, places) {
			t.Fatalf("changed: %v, %v", l, view)
		}
	}
}

// FuzzGuess asks the uses of any text, with and without what Scan and views leave aside (P4.5).
func FuzzGuess(f *testing.F) {
	f.Add("{ EACH(x) { f(); } }")
	f.Add("#if A\nFOO(\n#else\n) /* a */ BAR int x;\n#endif\nFOO();")
	f.Fuzz(func(t *testing.T, s string) {
		l, _ := lex.Scan(s)
		view, e := cond.First(l)
		if e != api.OK {
			return
		}
		var bare []api.Token
		var all []int
		for i, at := range view {
			bare = append(bare, api.Token{Kind: l[at].Kind, Text: l[at].Text})
			all = append(all, i)
		}
		for k := range view {
			got, e := macro.Guess(l, view, k)
			if want, bad := macro.Guess(bare, all, k); got != want || e != bad || (e == api.OK) != (bare[k].Kind == api.KName) {
				t.Errorf("Guess(%q, %d) = %d, %d; want %d, %d", s, k, got, e, want, bad)
			}
		}
	})
}
