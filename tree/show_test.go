package tree_test

import (
	"math"
	"slices"
	"strings"
	"testing"

	"smocking/api"
	"smocking/lex"
	"smocking/parse"
	"smocking/tree"
)

func TestTextAndShort(t *testing.T) {
	for _, c := range []struct {
		s           string
		path        []int
		text, short string
	}{
		{" /* a */ f ( a,b ) ;// c\n", nil, "f ( a,b ) ;", "f ( a , b ) ;"},
		{"int x=f ( a,b );", []int{0, 1, 0}, "f ( a,b )", "f ( a , b )"},
		{"int x=f ( a,b );", []int{0, 1, 0, 0, 2}, "b", "b"},
		{"int x = /* 1 */ a/* 2 */ + // 3\n\tb /* 4 */;", []int{0, 1, 0, 0}, "a/* 2 */ + // 3\n\tb", "a + b"},
		{"int a\n#if A\n,b\n#else\n,c /* d */\n#endif\n;", []int{0}, "int a\n#if A\n,b\n#else\n,c /* d */\n#endif\n;", "int a , b ;"},
		{"int a[ ];", []int{0, 1, 0}, "[ ]", "[ ]"},
		{"int f(){for( ; ; );}", []int{0, 2, 0, 1}, "", ""},
		{"X int y ALIAS( g );", []int{0}, "int y ALIAS( g );", "int y ALIAS ( g ) ;"},
		{"", nil, "", ""},
		{"\n// a\n#b\n", nil, "", ""},
	} {
		l, view, root := file(t, c.s)
		n, e := tree.At(root, c.path)
		if e != api.OK {
			t.Fatalf("%q has no %v", c.s, c.path)
		}
		if got, e := tree.Text(l, n); got != c.text || e != api.OK {
			t.Errorf("Text of %q at %v = %q, %d; want %q", c.s, c.path, got, e, c.text)
		}
		if got, e := tree.Short(l, view, n); got != c.short || e != api.OK {
			t.Errorf("Short of %q at %v = %q, %d; want %q", c.s, c.path, got, e, c.short)
		}
	}
}

// TestTextOfAllPlaces asks for all nodes that tokens may have, and others.
func TestTextOfAllPlaces(t *testing.T) {
	s := " a /* b */ +\n#c\n\t1 ;\n"
	l, e := lex.Scan(s)
	if e != api.OK || len(l) != 6 {
		t.Fatalf("Scan: %v, %d", l, e)
	}
	views := [][]int{nil, {0, 1, 3, 4, 5}, {1, 4}, {0, 1, 2, 3, 4, 5}, {5}}
	for from := -2; from < len(l)+3; from++ {
		for to := -2; to < len(l)+3; to++ {
			n := api.Node{Op: api.OFile, From: from, To: to, L: []api.Node{{From: -1, To: 99}}}
			isFine := 0 <= from && from <= to && to <= len(l)
			want, wantError := "", api.ErrForm
			if isFine {
				wantError = api.OK
			}
			if isFine && from < to {
				want = s[l[from].At : l[to-1].At+len(l[to-1].Text)]
			}
			if got, e := tree.Text(l, n); got != want || e != wantError {
				t.Errorf("Text(%d, %d) = %q, %d; want %q, %d", from, to, got, e, want, wantError)
			}
			for _, view := range views {
				var texts []string
				for i := from; isFine && i < to; i++ {
					if slices.Contains(view, i) {
						texts = append(texts, l[i].Text)
					}
				}
				if got, e := tree.Short(l, view, n); got != strings.Join(texts, " ") || e != wantError {
					t.Errorf("Short(%v, %d, %d) = %q, %d; want %q, %d", view, from, to, got, e, texts, wantError)
				}
			}
		}
	}
}

func TestTextAndShortOfNoPlaces(t *testing.T) {
	l := names(2)
	for _, n := range []api.Node{placed(-1, 1), placed(1, 3), placed(3, 3), placed(-1, -1), placed(2, 1), placed(math.MinInt, math.MaxInt), placed(math.MaxInt, math.MinInt), placed(math.MinInt, 0), placed(0, math.MaxInt)} {
		if got, e := tree.Text(l, n); got != "" || e != api.ErrForm {
			t.Errorf("Text(%s) = %q, %d; want ErrForm", show(n), got, e)
		}
		if got, e := tree.Short(l, []int{0, 1}, n); got != "" || e != api.ErrForm {
			t.Errorf("Short(%s) = %q, %d; want ErrForm", show(n), got, e)
		}
	}
	if got, e := tree.Text(nil, api.Node{}); got != "" || e != api.OK {
		t.Errorf("Text without tokens = %q, %d", got, e)
	}
	if got, e := tree.Short(nil, nil, api.Node{}); got != "" || e != api.OK {
		t.Errorf("Short without tokens = %q, %d", got, e)
	}
}

func TestShortOfNoView(t *testing.T) {
	l := names(3)
	for _, view := range [][]int{{1, 0}, {0, 0}, {3}, {-1}, {0, 1, 3}, {-1, 0}, {0, 2, 1}, {math.MinInt}, {math.MaxInt}, {2, math.MinInt}} {
		for _, n := range []api.Node{placed(0, 3), placed(0, 1), placed(0, 0)} {
			if got, e := tree.Short(l, view, n); got != "" || e != api.ErrForm {
				t.Errorf("Short(%v, %s) = %q, %d; want ErrForm", view, show(n), got, e)
			}
		}
	}
	if got, e := tree.Short(nil, []int{0}, api.Node{}); got != "" || e != api.ErrForm {
		t.Errorf("Short of a view without tokens = %q, %d", got, e)
	}
	was := []int{0, 2}
	if got, e := tree.Short(l, was, placed(0, 3)); got != "a a" || e != api.OK || !slices.Equal(was, []int{0, 2}) {
		t.Errorf("Short = %q, %d, %v", got, e, was)
	}
}

// TestTextOfFiles holds the text of a file's root against the file's (P6.4).
func TestTextOfFiles(t *testing.T) {
	eachFile(t, func(s string, l []api.Token, view []int, root api.Node) {
		checkTexts(t, s, l, root)
	})
}

// checkTexts asks for the text of a file, and of all nodes in it.
func checkTexts(t *testing.T, s string, l []api.Token, root api.Node) {
	t.Helper()
	for _, path := range tree.Paths(root, 0) {
		n, _ := tree.At(root, path)
		want := ""
		if n.From < n.To {
			want = s[l[n.From].At : l[n.To-1].At+len(l[n.To-1].Text)]
		}
		if got, e := tree.Text(l, n); got != want || e != api.OK {
			t.Fatalf("Text of %q at %v = %q, %d; want %q", s, path, got, e, want)
		}
	}
}

// TestShortOfFiles reads the short texts of nodes again, and looks for their tokens.
func TestShortOfFiles(t *testing.T) {
	eachFile(t, func(s string, l []api.Token, view []int, root api.Node) {
		for _, path := range tree.Paths(root, 0) {
			n, _ := tree.At(root, path)
			var want []string
			for _, at := range view {
				if n.From <= at && at < n.To {
					want = append(want, l[at].Text)
				}
			}
			short, e := tree.Short(l, view, n)
			again, _ := lex.Scan(short)
			if e != api.OK || !slices.Equal(lex.Strip(again), want) || len(short) != len(strings.Join(want, " ")) {
				t.Fatalf("Short of %q at %v = %q, %d", s, path, short, e)
			}
		}
	})
}

func FuzzTree(f *testing.F) {
	for _, s := range []string{"int f(int a) { return (a) + 1; }", "int f(){x:\n#a\n}", "X int a\n#if A\n,b\n#else\n,c\n#endif\n;@", ""} {
		f.Add(s)
	}
	f.Fuzz(func(t *testing.T, s string) {
		l, _, root, e := parse.File(s)
		if e != api.OK || len(l) > 300 {
			return
		}
		checkFile(t, s, l, root)
		checkTexts(t, s, l, root)
		if plain := tree.Plain(root); !tree.Alike(root, plain) || tree.Size(plain) > tree.Size(root) {
			t.Fatalf("Plain of %q: %s", s, show(plain))
		}
		for token := -1; token <= len(l); token++ {
			checkLeaf(t, s, root, token)
		}
	})
}
