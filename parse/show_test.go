package parse_test

import (
	"slices"
	"strconv"
	"strings"
	"testing"

	"smocking/api"
	"smocking/parse"
)

var opNames = map[int]string{
	api.OFile: "file", api.OFunc: "func", api.ODecl: "decl", api.OStruct: "struct", api.OTypedef: "typedef", api.ORaw: "raw", api.OParam: "param",
	api.OVar: "var", api.OInit: "init", api.OType: "type", api.OSize: "size", api.OBlock: "block", api.OIf: "if", api.OWhile: "while", api.ODo: "do",
	api.OFor: "for", api.OSwitch: "switch", api.OCase: "case", api.ODefault: "default", api.OLabel: "label", api.OGoto: "goto", api.OReturn: "return",
	api.OBreak: "break", api.OContinue: "continue", api.OExpr: "expr", api.OEmpty: "empty", api.OMacro: "macro", api.OLoop: "loop", api.OFirst: "first",
	api.OTest: "test", api.OLast: "last", api.EName: "name", api.ENumber: "number", api.EChar: "char", api.EString: "string", api.EParen: "paren",
	api.EBinary: "binary", api.EUnary: "unary", api.EPost: "post", api.EAssign: "assign", api.ECond: "cond", api.ECall: "call", api.EIndex: "index",
	api.EMember: "member", api.ECast: "cast", api.ESizeof: "sizeof", api.EComma: "comma", api.OList: "list",
}

// show writes a tree without its places: op:S^N{parts}.
func show(n api.Node) string {
	s := opNames[n.Op]
	if s == "" {
		s = "op" + strconv.Itoa(n.Op)
	}
	if n.S != "" {
		s += ":" + n.S
	}
	if n.N != 0 {
		s += "^" + strconv.Itoa(n.N)
	}
	if len(n.L) > 0 {
		s += "{" + showAll(n.L) + "}"
	}
	return s
}

func showAll(l []api.Node) string {
	var all []string
	for _, n := range l {
		all = append(all, show(n))
	}
	return strings.Join(all, " ")
}

// showPlaced writes a tree with its places: op(From,To){parts}.
func showPlaced(n api.Node) string {
	s := opNames[n.Op] + "(" + strconv.Itoa(n.From) + "," + strconv.Itoa(n.To) + ")"
	var all []string
	for _, part := range n.L {
		all = append(all, showPlaced(part))
	}
	if len(all) > 0 {
		s += "{" + strings.Join(all, " ") + "}"
	}
	return s
}

// file returns what File does of a text that has a tree.
func file(t *testing.T, s string) ([]api.Token, []int, api.Node) {
	t.Helper()
	l, view, root, e := parse.File(s)
	if e != api.OK {
		t.Fatalf("File(%.80q): %d", s, e)
	}
	return l, view, root
}

// want holds texts against the shown items of their trees.
func want(t *testing.T, cases [][2]string) {
	t.Helper()
	for _, c := range cases {
		_, _, root := file(t, c[0])
		if got := showAll(root.L); got != c[1] {
			t.Errorf("%q:\n got %s\nwant %s", c[0], got, c[1])
		}
	}
}

// wantBody does so with the statements of a function.
func wantBody(t *testing.T, cases [][2]string) {
	t.Helper()
	for _, c := range cases {
		text := "typedef int T1;typedef int*T2;int f(){" + c[0] + "}"
		_, _, root := file(t, text)
		body := root.L[len(root.L)-1]
		got := show(body)
		if body.Op == api.OFunc {
			got = showAll(body.L[2].L)
		}
		if got != c[1] || len(root.L) != 3 {
			t.Errorf("%q in %d items:\n got %s\nwant %s", c[0], len(root.L), got, c[1])
		}
	}
}

// wantValue does so with an expression.
func wantValue(t *testing.T, cases [][2]string) {
	t.Helper()
	var bodies [][2]string
	for _, c := range cases {
		result := "return{" + c[1] + "}"
		if c[1] == "raw" {
			result = "raw"
		}
		bodies = append(bodies, [2]string{"return " + c[0] + ";", result})
	}
	wantBody(t, bodies)
}

// alike tells whether two trees are the same with their places.
func alike(a, b api.Node) bool {
	return a.Op == b.Op && a.S == b.S && a.N == b.N && a.From == b.From && a.To == b.To && slices.EqualFunc(a.L, b.L, alike)
}

// isZero tells whether a node is the zero value, no parts being nil or empty.
func isZero(n api.Node) bool {
	return alike(n, api.Node{})
}

// levels and nodes count those of a tree.
func levels(n api.Node) int {
	most := 0
	for _, part := range n.L {
		most = max(most, levels(part))
	}
	return most + 1
}

func nodes(n api.Node) int {
	count := 1
	for _, part := range n.L {
		count += nodes(part)
	}
	return count
}
