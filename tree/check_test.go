package tree_test

import (
	"math"
	"testing"

	"smocking/api"
	"smocking/tree"
)

// names are as many tokens that are no directives.
func names(count int) []api.Token {
	l := make([]api.Token, count)
	for i := range l {
		l[i] = api.Token{Kind: api.KName, Text: "a"}
	}
	return l
}

func TestCheck(t *testing.T) {
	l := names(5)
	for _, c := range []struct {
		name string
		n    api.Node
		want api.Errno
	}{
		{"one node", placed(0, 5), api.OK}, {"a node without tokens", placed(2, 2), api.OK}, {"one at the end", placed(5, 5), api.OK}, {"the zero node", api.Node{}, api.OK},
		{"From below 0", placed(-1, 2), api.ErrForm}, {"To beyond the end", placed(0, 6), api.ErrForm}, {"both beyond the end", placed(6, 6), api.ErrForm}, {"both below 0", placed(-1, -1), api.ErrForm},
		{"From behind To", placed(3, 2), api.ErrForm}, {"the least places", placed(math.MinInt, math.MinInt), api.ErrForm}, {"the greatest places", placed(math.MaxInt, math.MaxInt), api.ErrForm},
		{"the least and the greatest place", placed(math.MinInt, math.MaxInt), api.ErrForm}, {"the same turned around", placed(math.MaxInt, math.MinInt), api.ErrForm},
		{"parts side by side", placed(1, 4, placed(1, 2), placed(2, 4)), api.OK}, {"parts with tokens between", placed(0, 5, placed(1, 2), placed(3, 4)), api.OK},
		{"parts without tokens", placed(1, 4, placed(1, 1), placed(1, 1), placed(1, 3), placed(3, 3), placed(4, 4)), api.OK},
		{"a part as large as its node", placed(1, 4, placed(1, 4, placed(1, 4))), api.OK}, {"a part that begins before", placed(1, 4, placed(0, 2)), api.ErrForm},
		{"a part that ends behind", placed(1, 4, placed(3, 5)), api.ErrForm}, {"a part behind", placed(1, 3, placed(3, 4)), api.ErrForm}, {"a part before", placed(1, 3, placed(0, 1)), api.ErrForm},
		{"a part without tokens before", placed(1, 3, placed(0, 0)), api.ErrForm}, {"a part without tokens behind", placed(1, 3, placed(4, 4)), api.ErrForm},
		{"a part's From behind its To", placed(1, 4, placed(3, 2)), api.ErrForm}, {"a common token", placed(0, 5, placed(0, 2), placed(1, 3)), api.ErrForm},
		{"parts in another order", placed(0, 5, placed(2, 3), placed(0, 1)), api.ErrForm}, {"a part without tokens in another one", placed(0, 5, placed(0, 3), placed(1, 1)), api.ErrForm},
		{"one behind the part that has its place", placed(0, 5, placed(2, 3), placed(2, 2)), api.ErrForm}, {"a part's part that ends behind the part", placed(0, 5, placed(1, 2, placed(1, 3))), api.ErrForm},
		{"a last part's part", placed(0, 5, placed(0, 1), placed(1, 5, placed(1, 2), placed(1, 2))), api.ErrForm}, {"parts of a node without tokens", placed(2, 2, placed(2, 2)), api.OK},
		{"a part beyond the tokens", placed(0, 5, placed(5, 6)), api.ErrForm}, {"one without tokens there", placed(0, 5, placed(6, 6)), api.ErrForm},
	} {
		if got := tree.Check(l, c.n); got != c.want {
			t.Errorf("%s: Check(%s) = %d; want %d", c.name, show(c.n), got, c.want)
		}
	}
	if got := tree.Check(nil, api.Node{}); got != api.OK {
		t.Errorf("Check without tokens = %d", got)
	}
	if got := tree.Check(nil, placed(0, 1)); got != api.ErrForm {
		t.Errorf("Check beyond no tokens = %d", got)
	}
}

// TestCheckOfAllSmallTrees holds Check against the chapter's sentence for all places of a node with two parts.
func TestCheckOfAllSmallTrees(t *testing.T) {
	var all []api.Node
	for from := -1; from < 5; from++ {
		for to := -1; to < 5; to++ {
			all = append(all, placed(from, to))
		}
	}
	l := names(3)
	inside := func(x, around api.Node) bool {
		return around.From <= x.From && x.From <= x.To && x.To <= around.To
	}
	whole := placed(0, len(l))
	for _, n := range all {
		for _, a := range all {
			for _, b := range all {
				want := api.ErrForm
				if inside(n, whole) && inside(a, n) && inside(b, n) && a.To <= b.From {
					want = api.OK
				}
				if got := tree.Check(l, placed(n.From, n.To, a, b)); got != want {
					t.Fatalf("Check(%s) = %d; want %d", show(placed(n.From, n.To, a, b)), got, want)
				}
			}
		}
	}
}

func TestCheckLimits(t *testing.T) {
	l := names(1)
	wide := func(parts int) api.Node {
		return api.Node{Op: api.OFile, L: make([]api.Node, parts)}
	}
	twice := node(api.OFile, "", wide(api.MaxNodes/2-1), wide(api.MaxNodes/2-2))
	more := node(api.OFile, "", wide(api.MaxNodes/2-1), wide(api.MaxNodes/2-1))
	for _, c := range []struct {
		name string
		n    api.Node
		want api.Errno
	}{
		{"as many levels", chain(api.MaxNest+2, placed(0, 1)), api.OK}, {"one more", chain(api.MaxNest+3, placed(0, 1)), api.ErrLimit}, {"a great many", chain(1<<16, placed(0, 1)), api.ErrLimit},
		{"as many levels behind others", placed(0, 1, placed(0, 1), chain(api.MaxNest+1, placed(1, 1))), api.OK}, {"one more behind others", placed(0, 1, placed(0, 1), chain(api.MaxNest+2, placed(1, 1))), api.ErrLimit},
		{"as many nodes", wide(api.MaxNodes - 1), api.OK}, {"one more node", wide(api.MaxNodes), api.ErrLimit}, {"as many in two parts", twice, api.OK}, {"one more in two parts", more, api.ErrLimit},
		{"too many levels at no places", chain(api.MaxNest+3, placed(-1, 9)), api.ErrLimit}, {"no places ahead of too many levels", placed(0, 1, placed(1, 0), chain(api.MaxNest+2, placed(0, 1))), api.ErrLimit},
		{"too many nodes, the first at no places", placed(-1, 0, wide(api.MaxNodes).L...), api.ErrLimit}, {"as many nodes at no places", placed(-1, 0, wide(api.MaxNodes-1).L...), api.ErrForm},
		{"as many levels at no places", chain(api.MaxNest+2, placed(-1, 9)), api.ErrForm},
	} {
		if got := tree.Check(l, c.n); got != c.want {
			t.Errorf("%s: Check = %d; want %d", c.name, got, c.want)
		}
	}
}

// TestFilesAreValid checks trees of texts, also those in which a directive stands between a label and what it is of.
func TestFilesAreValid(t *testing.T) {
	eachFile(t, func(s string, l []api.Token, view []int, root api.Node) {
		if e := tree.Check(l, root); e != api.OK {
			t.Fatalf("Check of %q: %d: %s", s, e, show(root))
		}
	})
	for _, s := range []string{"", "#a\n", "int f(){x:}", "int f(){x:\n#a\n}", "int f(){if(a)x:y:default:\n#if A\n#else\nb;\n#endif\n// c\n}", "int f(){for(\n#a\n;\n#a\n;\n#a\n)\n#a\n;}"} {
		l, _, root := file(t, s)
		if e := tree.Check(l, root); e != api.OK {
			t.Errorf("Check of %q: %d: %s", s, e, show(root))
		}
	}
}

// TestPartsBehindDirectives has trees over tokens of which one is a directive.
func TestPartsBehindDirectives(t *testing.T) {
	l := names(6)
	l[3] = api.Token{Kind: api.KLine, Text: "#a"}
	for _, c := range []struct {
		name string
		n    api.Node
		want api.Errno
	}{
		{"a part without tokens behind the directive", placed(0, 6, placed(1, 3, placed(4, 4))), api.OK}, {"one at the end", placed(0, 3, placed(6, 6)), api.OK}, {"one beyond the end", placed(0, 3, placed(7, 7)), api.ErrForm},
		{"one behind a node ahead of the directive", placed(0, 6, placed(1, 2, placed(4, 4))), api.ErrForm}, {"one behind a node behind the directive", placed(0, 6, placed(3, 4, placed(5, 5))), api.ErrForm},
		{"a part with tokens", placed(0, 6, placed(1, 3, placed(4, 5))), api.ErrForm}, {"a part with the directive", placed(0, 6, placed(1, 3, placed(3, 4))), api.ErrForm},
		{"one whose From is behind its To", placed(0, 6, placed(1, 3, placed(5, 4))), api.ErrForm}, {"another part behind it", placed(0, 6, placed(1, 3, placed(4, 4), placed(2, 3))), api.ErrForm},
		{"a next node before it", placed(0, 6, placed(1, 3, placed(4, 4)), placed(4, 5)), api.OK},
	} {
		if got := tree.Check(l, c.n); got != c.want {
			t.Errorf("%s: Check(%s) = %d; want %d", c.name, show(c.n), got, c.want)
		}
	}
}
