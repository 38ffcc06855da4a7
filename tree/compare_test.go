package tree_test

import (
	"math/rand"
	"slices"
	"testing"

	"smocking/api"
	"smocking/tree"
)

func TestAlikeValues(t *testing.T) {
	for _, c := range []struct {
		a, b string
		want bool
	}{
		{"(a)+b", "a + b", true}, {"a+b", "b+a", false}, {"((a))", "a", true}, {"((a)+(b))", "a+b", true}, {"(a+b)*c", "a+b*c", false}, {"a*(b+c)", "a*((b)+c)", true}, {"f(a,b)", "f((a,b))", false},
		{"f((a),b)", "(f)(a,(b))", true}, {"a-b", "a+b", false}, {"1", "01", false}, {"a", "'a'", false}, {"\"a\" \"b\"", "\"a\"/* c */\"b\"", true}, {"(int*)a", "(int**)a", false}, {"(int*)(a)", "(int*)a", true},
		{"a.b", "a->b", false}, {"++a", "a++", false}, {"f()", "f(a)", false}, {"f(a)", "f(a,a)", false}, {"a?b:(c)", "(a)?(b):c", true},
	} {
		a, b := value(t, c.a), value(t, c.b)
		if got := tree.Alike(a, b); got != c.want || tree.Alike(b, a) != c.want {
			t.Errorf("Alike(%s, %s) = %v; want %v", c.a, c.b, got, c.want)
		}
	}
}

func TestAlike(t *testing.T) {
	a, b := name("a"), name("b")
	for _, c := range []struct {
		name string
		a, b api.Node
		want bool
	}{
		{"zero nodes", api.Node{}, api.Node{}, true}, {"no parts and nil", api.Node{L: []api.Node{}}, api.Node{}, true}, {"Op", node(api.EName, "a"), node(api.ENumber, "a"), false}, {"S", a, b, false},
		{"N", api.Node{N: 1}, api.Node{}, false}, {"places", api.Node{From: 1, To: 2}, api.Node{From: 3, To: -4}, true}, {"a part more", node(1, "", a), node(1, "", a, a), false}, {"another order", node(1, "", a, b), node(1, "", b, a), false},
		{"places of parts", node(1, "", placed(1, 2)), node(1, "", placed(3, 4)), true}, {"parentheses at the root", paren(a), a, true}, {"on both sides", paren(paren(a)), paren(a), true}, {"S of parentheses", node(api.EParen, "x", a), a, true},
		{"N of parentheses", api.Node{Op: api.EParen, N: 3, L: []api.Node{a}}, paren(a), true}, {"parentheses of no part", paren(), paren(), true}, {"of no part and of one without parts", paren(), paren(paren()), true}, {"of no part and a node", paren(), api.Node{}, false},
		{"of several parts", paren(a, b), paren(paren(a), b), true}, {"of several parts, differently", paren(a, b), paren(b, a), false}, {"of several parts and of one", paren(a, a), paren(a), false}, {"of several parts and a comma", paren(a, b), node(api.EComma, "", a, b), false},
		{"several among parts", node(1, "", paren(a, b)), node(1, "", a, b), false}, {"none among parts", node(1, "", paren()), node(1, ""), false}, {"S of several", node(api.EParen, "x", a, b), paren(a, b), false}, {"S of none", node(api.EParen, "x"), paren(), false},
		{"one in several", paren(paren(a, b)), paren(a, b), true}, {"unknown Ops", node(-5, ""), node(-5, ""), true}, {"many levels", chain(1<<16, paren(a)), paren(a), true}, {"many levels of others", chain(1<<16, node(1, "")), chain(1<<16-1, node(1, "")), false},
	} {
		if got := tree.Alike(c.a, c.b); got != c.want || tree.Alike(c.b, c.a) != c.want {
			t.Errorf("%s: Alike = %v; want %v", c.name, got, c.want)
		}
	}
}

// more puts some nodes of a tree into parentheses, and moves all places.
func more(r *rand.Rand, n api.Node) api.Node {
	n.L = slices.Clone(n.L)
	for i := range n.L {
		n.L[i] = more(r, n.L[i])
	}
	n.From, n.To = r.Intn(9), r.Intn(9)
	for r.Intn(4) == 0 {
		n = paren(n)
	}
	return n
}

// TestAlikeIsPlainlyTheSame holds Alike against Plain, and asks for an equivalence (P6.4).
func TestAlikeIsPlainlyTheSame(t *testing.T) {
	r := rand.New(rand.NewSource(5))
	same := 0
	for range 20000 {
		a, b := anyTree(r, 1+r.Intn(3)), anyTree(r, 1+r.Intn(3))
		alike := tree.Alike(a, b)
		if want := show(tree.Plain(a)) == show(tree.Plain(b)); alike != want || tree.Alike(b, a) != want {
			t.Fatalf("Alike(%s, %s) = %v; want %v", show(a), show(b), alike, want)
		}
		if alike {
			same++
		}
		c := more(r, a)
		if !tree.Alike(a, a) || !tree.Alike(a, c) || !tree.Alike(c, a) || tree.Alike(c, b) != alike || tree.Alike(more(r, b), c) != alike {
			t.Fatalf("Alike of %s, %s, %s: no equivalence", show(a), show(b), show(c))
		}
	}
	if same < 100 {
		t.Errorf("only %d are alike", same)
	}
}

func TestPlain(t *testing.T) {
	a, b := name("a"), name("b")
	for _, c := range []struct{ n, want api.Node }{
		{api.Node{}, api.Node{}}, {api.Node{Op: 3, S: "s", N: 4, From: 1, To: 2}, api.Node{Op: 3, S: "s", N: 4}}, {paren(a), a}, {paren(paren(node(1, "", paren(a), b))), node(1, "", a, b)}, {paren(), paren()}, {paren(paren()), paren()},
		{paren(paren(a), paren(b)), paren(a, b)}, {node(1, "", paren(paren(a, b))), node(1, "", paren(a, b))}, {placed(1, 2, placed(1, 1, placed(1, 1)), placed(2, 2)), placed(0, 0, placed(0, 0, placed(0, 0)), placed(0, 0))},
		{api.Node{Op: api.EParen, From: 1, To: 4, L: []api.Node{{Op: api.EName, S: "a", From: 2, To: 3}}}, a}, {chain(1<<16, paren(a)), a}, {api.Node{Op: api.EParen, From: 1, To: 3}, paren()},
	} {
		if got := tree.Plain(c.n); show(got) != show(c.want) {
			t.Errorf("Plain = %s; want %s", show(got), show(c.want))
		}
	}
	if got := tree.Plain(value(t, "(a)+((b)*(c))")); show(got) != show(node(api.EBinary, "+", a, node(api.EBinary, "*", b, name("c")))) {
		t.Errorf("Plain = %s", show(got))
	}
}

// TestPlainIsAlike takes trees of files (P6.4).
func TestPlainIsAlike(t *testing.T) {
	eachFile(t, func(s string, l []api.Token, view []int, root api.Node) {
		plain := tree.Plain(root)
		if !tree.Alike(root, plain) || !tree.Alike(plain, root) || show(tree.Plain(plain)) != show(plain) {
			t.Fatalf("Plain of %q: %s", s, show(plain))
		}
		if tree.Size(plain) != tree.Size(root)-len(tree.Paths(root, api.EParen)) || len(tree.Paths(plain, api.EParen)) > 0 {
			t.Fatalf("Plain of %q: %s", s, show(plain))
		}
		for _, path := range tree.Paths(plain, 0) {
			if n, _ := tree.At(plain, path); n.From != 0 || n.To != 0 {
				t.Fatalf("Plain of %q: %s", s, show(plain))
			}
		}
	})
}

func TestSizeAndLevels(t *testing.T) {
	for _, c := range []struct {
		n            api.Node
		size, levels int
	}{
		{api.Node{}, 1, 1}, {name("a"), 1, 1}, {paren(name("a")), 2, 2}, {sample(), 7, 3}, {paren(), 1, 1}, {paren(paren(), paren(), paren(paren())), 5, 3}, {chain(50, name("a")), 50, 50}, {chain(1<<16, name("a")), 1 << 16, 1 << 16},
		{node(1, "", chain(3, paren()), chain(5, paren()), paren()), 10, 6}, {api.Node{L: make([]api.Node, api.MaxNodes)}, api.MaxNodes + 1, 2},
	} {
		if size, levels := tree.Size(c.n), tree.Levels(c.n); size != c.size || levels != c.levels {
			t.Errorf("%d nodes on %d levels; want %d on %d", size, levels, c.size, c.levels)
		}
	}
}

func TestFuncsAndNames(t *testing.T) {
	for _, c := range []struct {
		s            string
		funcs, names []string
	}{
		{"", nil, nil}, {"int x;", nil, nil}, {"int f(){} int x; void b(int y){c(B,_,a);{c=a;}} int a(){}", []string{"f", "b", "a"}, []string{"B", "_", "a", "b", "c", "f"}},
		{"int f(){} int f(){}", []string{"f", "f"}, []string{"f"}}, {"int f(); int g(){@} int a10,a2=a10+a9;", nil, []string{"a10", "a9"}},
		{"MODULE(x) struct s{int a[n];}; int f(t*p){l: p->q=(t*)r; goto l; DONE}", []string{"f"}, []string{"DONE", "MODULE", "f", "n", "p", "r", "x"}},
	} {
		_, _, root := file(t, c.s)
		if funcs, names := tree.Funcs(root), tree.Names(root); !slices.Equal(funcs, c.funcs) || !slices.Equal(names, c.names) {
			t.Errorf("%q: %q, %q; want %q, %q", c.s, funcs, names, c.funcs, c.names)
		}
	}
}

// TestFuncsAndNamesOfOddTrees has trees that parse does not make.
func TestFuncsAndNamesOfOddTrees(t *testing.T) {
	function := node(api.OFunc, "", node(api.OType, "int"), name("f"))
	for _, c := range []struct {
		n            api.Node
		funcs, names []string
	}{
		{api.Node{}, nil, nil}, {name("a"), nil, []string{"a"}}, {paren(paren(name("b")), name("a"), name("b")), nil, []string{"a", "b"}}, {function, nil, []string{"f"}},
		{node(api.OFile, "", node(api.OFunc, "x"), node(api.OFunc, "x", name("y")), function), []string{"f"}, []string{"f", "y"}}, {node(api.OFile, "", node(api.OBlock, "", function)), nil, []string{"f"}},
		{node(api.OFile, "", node(api.OFunc, "x", name("a"), node(api.ENumber, "b"), name("c"))), []string{"b"}, []string{"a", "c"}}, {node(api.ORaw, "", name("a"), node(api.EName, "\xff", name("Z"))), nil, []string{"Z", "a", "\xff"}},
		{node(api.OFile, "", node(api.OFunc, "", name(""), name(""))), []string{""}, []string{""}},
	} {
		if funcs, names := tree.Funcs(c.n), tree.Names(c.n); !slices.Equal(funcs, c.funcs) || !slices.Equal(names, c.names) {
			t.Errorf("%s: %q, %q; want %q, %q", show(c.n), funcs, names, c.funcs, c.names)
		}
	}
}
