package tree_test

import (
	"math/rand"
	"strconv"
	"strings"
	"testing"

	"smocking/api"
	"smocking/parse"
)

// file returns what parse.File does of a text that has a tree.
func file(t *testing.T, s string) ([]api.Token, []int, api.Node) {
	t.Helper()
	l, view, root, e := parse.File(s)
	if e != api.OK {
		t.Fatalf("File(%q): %d", s, e)
	}
	return l, view, root
}

// value returns the tree of an expression.
func value(t *testing.T, s string) api.Node {
	t.Helper()
	_, _, root := file(t, "int f(){return "+s+";}")
	if root.L[0].Op != api.OFunc {
		t.Fatalf("%q cannot be read", s)
	}
	return root.L[0].L[2].L[0].L[0]
}

func node(op int, s string, parts ...api.Node) api.Node {
	return api.Node{Op: op, S: s, L: parts}
}

func name(s string) api.Node {
	return node(api.EName, s)
}

// paren puts expressions into one pair of parentheses.
func paren(parts ...api.Node) api.Node {
	return node(api.EParen, "", parts...)
}

// placed is a node of which just the places count.
func placed(from, to int, parts ...api.Node) api.Node {
	return api.Node{Op: api.OBlock, From: from, To: to, L: parts}
}

// chain is a tree of some levels, each a node with one part.
func chain(levels int, n api.Node) api.Node {
	for range levels - 1 {
		parent := n
		parent.L = []api.Node{n}
		n = parent
	}
	return n
}

// show writes all that a tree has: Op:S*N@From-To(parts).
func show(n api.Node) string {
	var all strings.Builder
	write(&all, n)
	return all.String()
}

func write(all *strings.Builder, n api.Node) {
	all.WriteString(strconv.Itoa(n.Op) + ":" + strconv.Quote(n.S) + "*" + strconv.Itoa(n.N) + "@" + strconv.Itoa(n.From) + "-" + strconv.Itoa(n.To) + "(")
	for _, part := range n.L {
		write(all, part)
	}
	all.WriteString(")")
}

// anyTree makes trees of few different nodes, so that some are alike.
func anyTree(r *rand.Rand, depth int) api.Node {
	ops := []int{api.OFile, api.OFunc, api.OBlock, api.EName, api.EName, api.EParen, api.EParen, api.ECall, 0, -1}
	n := api.Node{Op: ops[r.Intn(len(ops))], S: []string{"", "a", "b"}[r.Intn(3)], N: r.Intn(2), From: r.Intn(5) - 1, To: r.Intn(5) - 1}
	for depth > 1 && r.Intn(4) > 0 && len(n.L) < 4 {
		n.L = append(n.L, anyTree(r, depth-1))
	}
	return n
}

// anyText makes texts of readable pieces, with directives and comments between.
func anyText(r *rand.Rand) string {
	items := []string{"int x;", "typedef int t;", "struct s{int a[(1)];};", "X int y;", "int z ALIAS(g);", "MODULE(a)", "@ b;", ";", "static t*x={1,{(2)}};", "int f();"}
	statements := []string{"a=(b+1);", "f((a),((b)));", "if(a)", "else", "for(;;)", "for(int i=0;(i)<1;i++)", "{", "}", "each(a){}", "DONE", "x:", "y:", "default:", "return sizeof(int*);", "s *p;", "\"a\"", "\"b\";", ";"}
	between := []string{" ", " ", " ", "\n", "/* ; */", "// a\n", "\n#x\n", "\n#if A\n", "\n#else\n", "\n#endif\n"}
	var all strings.Builder
	for range r.Intn(4) {
		all.WriteString(items[r.Intn(len(items))] + between[r.Intn(len(between))])
		if r.Intn(2) > 0 {
			continue
		}
		all.WriteString("int f(t*a){")
		for range r.Intn(8) {
			all.WriteString(statements[r.Intn(len(statements))] + between[r.Intn(len(between))])
		}
		all.WriteString("}")
	}
	return all.String()
}

// eachFile tries many texts that have a tree.
func eachFile(t *testing.T, try func(s string, l []api.Token, view []int, root api.Node)) {
	t.Helper()
	r := rand.New(rand.NewSource(1))
	tried := 0
	for range 20000 {
		s := anyText(r)
		if l, view, root, e := parse.File(s); e == api.OK {
			try(s, l, view, root)
			tried++
		}
	}
	if tried < 5000 {
		t.Errorf("only %d of the texts have a tree", tried)
	}
}
