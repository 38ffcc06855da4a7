package tree_test

import (
	"math"
	"testing"

	"smocking/api"
	"smocking/tree"
)

// names are as many tokens that are no directives.
func names(count int) []api.Token {
	l := make([]api.Token, count)
	for i := range l {
		l[i] = api.Token{Kind: api.KName, Text: "a"}
	}
	return l
}

// lines are as many directives.
func lines(count int) []api.Token {
	l := make([]api.Token, count)
	for i := range l {
		l[i] = api.Token{Kind: api.KLine, Text: "#a"}
	}
	return l
}

func TestCheck(t *testing.T) {
	l := names(5)
	for _, c := range []struct {
		name string
		n    api.Node
		want api.Errno
	}{
		{"one node", placed(0, 5), api.OK}, {"a node without tokens", placed(2, 2), api.OK}, {"one at the end", placed(5, 5), api.OK}, {"the zero node", api.Node{}, api.OK},
		{"From below 0", placed(-1, 2), api.ErrForm}, {"To beyond the end", placed(0, 6), api.ErrForm}, {"both beyond the end", placed(6, 6), api.ErrForm}, {"both below 0", placed(-1, -1), api.ErrForm},
		{"From behind To", placed(3, 2), api.ErrForm}, {"the least places", placed(math.MinInt, math.MinInt), api.ErrForm}, {"the greatest places", placed(math.MaxInt, math.MaxInt), api.ErrForm},
		{"the least and the greatest place", placed(math.MinInt, math.MaxInt), api.ErrForm}, {"the same turned around", placed(math.MaxInt, math.MinInt), api.ErrForm},
		{"parts side by side", placed(1, 4, placed(1, 2), placed(2, 4)), api.OK}, {"parts with tokens between", placed(0, 5, placed(1, 2), placed(3, 4)), api.OK},
		{"parts without tokens", placed(1, 4, placed(1, 1), placed(1, 1), placed(1, 3), placed(3, 3), placed(4, 4)), api.OK},
		{"a part as large as its node", placed(1, 4, placed(1, 4, placed(1, 4))), api.OK}, {"a part that begins before", placed(1, 4, placed(0, 2)), api.ErrForm},
		{"a part that ends behind", placed(1, 4, placed(3, 5)), api.ErrForm}, {"a part behind", placed(1, 3, placed(3, 4)), api.ErrForm}, {"a part before", placed(1, 3, placed(0, 1)), api.ErrForm},
		{"a part without tokens before", placed(1, 3, placed(0, 0)), api.ErrForm}, {"a part without tokens behind", placed(1, 3, placed(4, 4)), api.ErrForm},
		{"a part's From behind its To", placed(1, 4, placed(3, 2)), api.ErrForm}, {"a common token", placed(0, 5, placed(0, 2), placed(1, 3)), api.ErrForm},
		{"parts in another order", placed(0, 5, placed(2, 3), placed(0, 1)), api.ErrForm}, {"a part without tokens in another one", placed(0, 5, placed(0, 3), placed(1, 1)), api.ErrForm},
		{"one behind the part that has its place", placed(0, 5, placed(2, 3), placed(2, 2)), api.ErrForm}, {"a part's part that ends behind the part", placed(0, 5, placed(1, 2, placed(1, 3))), api.ErrForm},
		{"a last part's part", placed(0, 5, placed(0, 1), placed(1, 5, placed(1, 2), placed(1, 2))), api.ErrForm}, {"parts of a node without tokens", placed(2, 2, placed(2, 2)), api.OK},
		{"a part beyond the tokens", placed(0, 5, placed(5, 6)), api.ErrForm}, {"one without tokens there", placed(0, 5, placed(6, 6)), api.ErrForm},
	} {
		if got := tree.Check(l, c.n); got != c.want {
			t.Errorf("%s: Check(%s) = %d; want %d", c.name, show(c.n), got, c.want)
		}
	}
	if got := tree.Check(nil, api.Node{}); got != api.OK {
		t.Errorf("Check without tokens = %d", got)
	}
	if got := tree.Check(nil, placed(0, 1)); got != api.ErrForm {
		t.Errorf("Check beyond no tokens = %d", got)
	}
}

// lies tells whether a node lies in another one.
func lies(x, around api.Node) bool {
	return around.From <= x.From && x.From <= x.To && x.To <= around.To
}

// TestCheckOfAllSmallTrees holds Check against the chapter's sentence for all places of a node with two parts, and of
// one whose part has a part; what tokens there are does not count.
func TestCheckOfAllSmallTrees(t *testing.T) {
	var all []api.Node
	for from := -1; from < 5; from++ {
		for to := -1; to < 5; to++ {
			all = append(all, placed(from, to))
		}
	}
	const tokens = 3
	check := func(n api.Node, isValid bool) {
		want := api.ErrForm
		if isValid {
			want = api.OK
		}
		for _, l := range [][]api.Token{names(tokens), lines(tokens)} {
			if got := tree.Check(l, n); got != want {
				t.Fatalf("Check of %s over %v = %d; want %d", show(n), l, got, want)
			}
		}
	}
	whole := placed(0, tokens)
	for _, n := range all {
		for _, a := range all {
			for _, b := range all {
				isIn := lies(n, whole) && lies(a, n)
				check(placed(n.From, n.To, a, b), isIn && lies(b, n) && a.To <= b.From)
				check(placed(n.From, n.To, placed(a.From, a.To, b)), isIn && lies(b, a))
			}
		}
	}
}

func TestCheckLimits(t *testing.T) {
	l := names(1)
	wide := func(parts int) api.Node {
		return api.Node{Op: api.OFile, L: make([]api.Node, parts)}
	}
	twice := node(api.OFile, "", wide(api.MaxNodes/2-1), wide(api.MaxNodes/2-2))
	more := node(api.OFile, "", wide(api.MaxNodes/2-1), wide(api.MaxNodes/2-1))
	for _, c := range []struct {
		name string
		n    api.Node
		want api.Errno
	}{
		{"as many levels", chain(api.MaxNest+2, placed(0, 1)), api.OK}, {"one more", chain(api.MaxNest+3, placed(0, 1)), api.ErrLimit}, {"a great many", chain(1<<16, placed(0, 1)), api.ErrLimit},
		{"as many levels behind others", placed(0, 1, placed(0, 1), chain(api.MaxNest+1, placed(1, 1))), api.OK}, {"one more behind others", placed(0, 1, placed(0, 1), chain(api.MaxNest+2, placed(1, 1))), api.ErrLimit},
		{"as many nodes", wide(api.MaxNodes - 1), api.OK}, {"one more node", wide(api.MaxNodes), api.ErrLimit}, {"as many in two parts", twice, api.OK}, {"one more in two parts", more, api.ErrLimit},
		{"too many levels at no places", chain(api.MaxNest+3, placed(-1, 9)), api.ErrLimit}, {"no places ahead of too many levels", placed(0, 1, placed(1, 0), chain(api.MaxNest+2, placed(0, 1))), api.ErrLimit},
		{"too many nodes, the first at no places", placed(-1, 0, wide(api.MaxNodes).L...), api.ErrLimit}, {"as many nodes at no places", placed(-1, 0, wide(api.MaxNodes-1).L...), api.ErrForm},
		{"as many levels at no places", chain(api.MaxNest+2, placed(-1, 9)), api.ErrForm},
	} {
		if got := tree.Check(l, c.n); got != c.want {
			t.Errorf("%s: Check = %d; want %d", c.name, got, c.want)
		}
	}
}

// hasAllInside tells whether each part of a tree lies in its node.
func hasAllInside(n api.Node) bool {
	for _, path := range tree.Paths(n, 0) {
		if len(path) == 0 {
			continue
		}
		part, _ := tree.At(n, path)
		around, _ := tree.At(n, path[:len(path)-1])
		if !lies(part, around) {
			return false
		}
	}
	return true
}

// checkFile asks for a file's tree, and returns whether it is valid. Parts that Parse makes are in order and apart, so
// it is if they all lie in their nodes.
func checkFile(t *testing.T, s string, l []api.Token, root api.Node) bool {
	t.Helper()
	isValid := hasAllInside(root)
	want := api.OK
	if !isValid {
		want = api.ErrForm
	}
	if e := tree.Check(l, root); e != want {
		t.Fatalf("Check of %q: %d; want %d: %s", s, e, want, show(root))
	}
	return isValid
}

// TestFilesAreValid checks trees of texts. Those with a directive between a label and a closing brace have a part
// behind its node.
func TestFilesAreValid(t *testing.T) {
	valid, others := 0, 0
	eachFile(t, func(s string, l []api.Token, view []int, root api.Node) {
		if checkFile(t, s, l, root) {
			valid++
		} else {
			others++
		}
	})
	if valid < 5000 || others < 30 {
		t.Errorf("only %d trees are valid, %d are not", valid, others)
	}
	for _, c := range []struct {
		s       string
		isValid bool
	}{
		{"", true}, {"#a\n", true}, {"int f(){x:}", true}, {"int f(){x:/* a */\n}", true}, {"int f(){x:;\n#a\n}", true}, {"int f(){x:\n#a\n;}", true}, {"int f(){\n#a\nx:}", true},
		{"int f(){for(\n#a\n;\n#a\n;\n#a\n)\n#a\n;}", true}, {"int a[\n#a\n];", true}, {"int f(){x:\n#a\n}", false}, {"int f(){case 1:\n#a\n}", false}, {"int f(){if(a)x:y:default:\n#if A\n#else\nb;\n#endif\n// c\n}", false},
		{"int f(){x:\n#if A\n#else\nb;\n#endif\n}", false},
	} {
		l, _, root := file(t, c.s)
		if root.L != nil && root.L[0].Op == api.ORaw {
			t.Fatalf("%q cannot be read", c.s)
		}
		if got := checkFile(t, c.s, l, root); got != c.isValid {
			t.Errorf("%q: valid is %v: %s", c.s, got, show(root))
		}
	}
}

// TestPartsBehindDirectives has trees over tokens of which one is a directive: it makes no difference.
func TestPartsBehindDirectives(t *testing.T) {
	l := names(6)
	l[3] = lines(1)[0]
	for _, c := range []struct {
		name string
		n    api.Node
		want api.Errno
	}{
		{"a part without tokens at the directive", placed(0, 6, placed(1, 3, placed(3, 3))), api.OK}, {"one behind the directive that its node has", placed(0, 6, placed(1, 4, placed(4, 4))), api.OK},
		{"parts without tokens on both sides", placed(0, 6, placed(3, 4, placed(3, 3), placed(4, 4))), api.OK}, {"a next node behind it", placed(0, 6, placed(1, 3, placed(3, 3)), placed(4, 5)), api.OK},
		{"a part without tokens behind the directive", placed(0, 6, placed(1, 3, placed(4, 4))), api.ErrForm}, {"one at the end", placed(0, 3, placed(6, 6)), api.ErrForm}, {"one beyond the end", placed(0, 3, placed(7, 7)), api.ErrForm},
		{"one far behind the directive", placed(0, 6, placed(1, 3, placed(5, 5))), api.ErrForm}, {"one of a node without tokens", placed(0, 6, placed(3, 3, placed(4, 4))), api.ErrForm},
		{"one behind two nodes", placed(0, 6, placed(1, 3, placed(2, 3, placed(4, 4)))), api.ErrForm}, {"one behind another part", placed(0, 6, placed(1, 3, placed(1, 3), placed(4, 4))), api.ErrForm},
		{"one behind a node ahead of the directive", placed(0, 6, placed(1, 2, placed(4, 4))), api.ErrForm}, {"one behind a node behind the directive", placed(0, 6, placed(3, 4, placed(5, 5))), api.ErrForm},
		{"a part with tokens", placed(0, 6, placed(1, 3, placed(4, 5))), api.ErrForm}, {"a part with the directive", placed(0, 6, placed(1, 3, placed(3, 4))), api.ErrForm},
		{"one whose From is behind its To", placed(0, 6, placed(1, 3, placed(5, 4))), api.ErrForm}, {"another part behind it", placed(0, 6, placed(1, 3, placed(4, 4), placed(2, 3))), api.ErrForm},
		{"a next node at its place", placed(0, 6, placed(1, 3, placed(4, 4)), placed(4, 5)), api.ErrForm},
	} {
		if got := tree.Check(l, c.n); got != c.want {
			t.Errorf("%s: Check(%s) = %d; want %d", c.name, show(c.n), got, c.want)
		}
	}
	if got := tree.Check(lines(1), placed(0, 0, placed(1, 1))); got != api.ErrForm {
		t.Errorf("Check of a part behind the only token = %d", got)
	}
}
