package macro_test

import (
	"math"
	"math/rand"
	"slices"
	"strings"
	"testing"

	"smocking/api"
	"smocking/lex"
	"smocking/macro"
)

func TestUnknown(t *testing.T) {
	for _, c := range []struct {
		text string
		want []string
	}{
		{"", nil}, {"foo(a);", nil}, {"int f() { return A + B(1); }", nil},
		{"{ B(x) { } A(x) { } c() { } }", []string{"A", "B", "c"}},
		{"{ A(1) A(2) A }", []string{"A"}},
		{"DECLARE(a);\nEXPORT int f(void) PURE { LOCK(a) each(b) { } }\nDECLARE(b)", []string{"DECLARE", "EXPORT", "LOCK", "PURE", "each"}},
		{"#define A(x)\n{ A(1) } { B(2) }", []string{"B"}},
		{"{ A(1) }\n#define A(x)\n{ A(2) }", []string{"A"}},
		{"#define A(x)\n#undef A\n{ A(2) }", []string{"A"}},
		{"#if 0\n#else\n#define A(x)\n#endif\n{ A(2) }", nil},
		{"#if 0\n#else\n{ A(1) }\n#endif\n{ B(2) }", []string{"B"}},
		{"#if 0\n{ A(1) }\n#define A\n#endif\n{ A(2) }", []string{"A"}},
		{"#define A(\n{ A(2) }", []string{"A"}},
		{"#define B A\n{ A(2) B }", []string{"A"}},
		{"{ Z1() } { Z() } { _Z() } { Y_Z() } { z() { } }", []string{"Y_Z", "Z", "Z1", "_Z", "z"}},
		{"{ A(1 }", nil}, {"{ (A) }", nil}, {"( ( A(1) { } ) )", nil},
	} {
		l, view := first(t, c.text)
		if got, e := macro.Unknown(l, view); e != api.OK || !slices.Equal(got, c.want) {
			t.Errorf("Unknown(%q) = %q, %d; want %q", c.text, got, e, c.want)
		}
	}
	if got, e := macro.Unknown(nil, nil); len(got) > 0 || e != api.OK {
		t.Errorf("Unknown of nothing = %q, %d", got, e)
	}
}

func TestUnknownErrors(t *testing.T) {
	l := scan(t, "{ A }\n#define B\n")
	for _, view := range [][]int{{0, 2, 1}, {1, 1}, {-1, 0, 1, 2}, {0, 1, 2, 5}, {0, 1, 3, 2}, {3, 3}, {-1, 3}, {5}, {1 << 62}, {math.MinInt}, {math.MaxInt}} {
		if got, e := macro.Unknown(l, view); len(got) > 0 || e != api.ErrForm {
			t.Errorf("Unknown(%v) = %q, %d", view, got, e)
		}
	}
}

// TestUnknownAmidLines has directives in views, which are no error, and stand between what is around them.
func TestUnknownAmidLines(t *testing.T) {
	l := scan(t, "{ A }\n#define B\n; B int a; } C\n#x\n(a);")
	for _, c := range []struct {
		view []int
		want []string
	}{
		{[]int{0, 1, 2, 4}, []string{"A"}}, {[]int{0, 1, 2, 3}, []string{"A"}}, {[]int{0, 1, 3}, nil}, {[]int{0, 1, 3, 4}, nil}, {[]int{3}, nil}, {[]int{3, 5, 6}, nil},
		{[]int{5, 6, 7}, nil}, {[]int{9, 10, 12, 13, 14, 15}, []string{"C"}}, {[]int{9, 10, 11, 12, 13, 14, 15}, nil}, {[]int{11, 12, 13, 14, 15}, nil},
	} {
		if got, e := macro.Unknown(l, c.view); !slices.Equal(got, c.want) || e != api.OK {
			t.Errorf("Unknown(%v) = %q, %d; want %q", c.view, got, e, c.want)
		}
	}
}

// TestUnknownIsGuessed holds names against what Guess and Find tell of each use.
func TestUnknownIsGuessed(t *testing.T) {
	r := rand.New(rand.NewSource(7))
	told := 0
	for range 3000 {
		l, view := someView(t, r)
		var want []string
		for k, at := range view {
			kind, e := macro.Guess(l, view, k)
			_, defined := macro.Find(l, l[at].Text, at)
			if e == api.OK && kind != macro.Value && !defined && !slices.Contains(want, l[at].Text) {
				want = append(want, l[at].Text)
			}
		}
		slices.Sort(want)
		got, e := macro.Unknown(l, view)
		if e != api.OK || !slices.Equal(got, want) {
			t.Fatalf("Unknown(%q, %v) = %q, %d; want %q", lex.Text(l), view, got, e, want)
		}
		told += len(got)
	}
	if told == 0 {
		t.Error("no names at all")
	}
}

// TestUnknownLimits has texts of as many tokens as may be, which no use may go through again.
func TestUnknownLimits(t *testing.T) {
	for _, text := range []string{"; A (", "A ( ) ;", "{ } A ( ) ;", "{ ; A (", "{ A ( ) {"} {
		size := len(strings.Fields(text))
		l, view := first(t, strings.Repeat(text+"\n", (api.MaxTokens-1)/size))
		got, e := macro.Unknown(l, view)
		if want := !strings.HasSuffix(text, "A ("); e != api.OK || slices.Equal(got, []string{"A"}) != want {
			t.Errorf("Unknown of %d times %q = %q, %d", len(l)/size, text, got, e)
		}
	}
}

func TestCapital(t *testing.T) {
	for _, s := range []string{"A", "Z", "FOO", "A1", "F_1", "_A", "__A__", "_1A", "A_", "ABCDEFGHIJKLMNOPQRSTUVWXYZ_0123456789", "_0Z", strings.Repeat("A", api.MaxText+1)} {
		if !macro.Capital(s) {
			t.Errorf("Capital(%.80q) is false", s)
		}
	}
	for _, s := range []string{"", "_", "__", "_1", "1", "1A", "0_A", "a", "Aa", "aA", "A b", "A-", "-A", " A", "A ", "A\n", "É", "AÉ", "A\xff", "\x00A", "@A", "[A", "A/", "A:", "А"} {
		if macro.Capital(s) {
			t.Errorf("Capital(%q) is true", s)
		}
	}
}
