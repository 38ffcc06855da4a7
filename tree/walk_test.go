package tree_test

import (
	"math"
	"math/rand"
	"slices"
	"testing"

	"smocking/api"
	"smocking/tree"
)

// sample is a(b c(d e) (f)).
func sample() api.Node {
	return node(api.ECall, "a", name("b"), node(api.ECall, "c", name("d"), node(api.ENumber, "e")), paren(name("f")))
}

func TestAt(t *testing.T) {
	for _, c := range []struct {
		path []int
		want string
	}{
		{nil, "a"}, {[]int{}, "a"}, {[]int{0}, "b"}, {[]int{1}, "c"}, {[]int{1, 0}, "d"}, {[]int{1, 1}, "e"}, {[]int{2, 0}, "f"},
	} {
		if n, e := tree.At(sample(), c.path); n.S != c.want || e != api.OK {
			t.Errorf("At(%v) = %s, %d; want %s", c.path, show(n), e, c.want)
		}
	}
}

// TestNoSuchPath asks At and Replace alike.
func TestNoSuchPath(t *testing.T) {
	for _, path := range [][]int{{3}, {-1}, {math.MaxInt}, {math.MinInt}, {0, 0}, {1, 2}, {1, -1}, {2, 0, 0}, {3, 0}, {-1, 0}, {1, 5, 0}} {
		if n, e := tree.At(sample(), path); show(n) != show(api.Node{}) || e != api.ErrNone {
			t.Errorf("At(%v) = %s, %d; want ErrNone", path, show(n), e)
		}
		if n, e := tree.Replace(sample(), path, name("x")); show(n) != show(api.Node{}) || e != api.ErrNone {
			t.Errorf("Replace(%v) = %s, %d; want ErrNone", path, show(n), e)
		}
	}
	if n, e := tree.At(api.Node{}, []int{0}); show(n) != show(api.Node{}) || e != api.ErrNone {
		t.Errorf("At of one node = %s, %d", show(n), e)
	}
}

func TestPaths(t *testing.T) {
	for _, c := range []struct {
		n    api.Node
		op   int
		want [][]int
	}{
		{sample(), 0, [][]int{{}, {0}, {1}, {1, 0}, {1, 1}, {2}, {2, 0}}}, {sample(), api.EName, [][]int{{0}, {1, 0}, {2, 0}}}, {sample(), api.ECall, [][]int{{}, {1}}},
		{sample(), api.EParen, [][]int{{2}}}, {sample(), api.OFile, nil}, {sample(), -1, nil}, {sample(), math.MinInt, nil}, {api.Node{}, 0, [][]int{{}}}, {api.Node{}, 1, nil},
		{node(-1, "", node(0, "")), -1, [][]int{{}}}, {chain(4, name("a")), api.EName, [][]int{{}, {0}, {0, 0}, {0, 0, 0}}},
	} {
		if got := tree.Paths(c.n, c.op); !slices.EqualFunc(got, c.want, slices.Equal) {
			t.Errorf("Paths(%s, %d) = %v; want %v", show(c.n), c.op, got, c.want)
		}
	}
}

// TestPathsAreOfAllNodes holds Paths against At: preorder is the order of paths, a beginning first.
func TestPathsAreOfAllNodes(t *testing.T) {
	r := rand.New(rand.NewSource(2))
	for range 3000 {
		n := anyTree(r, 5)
		paths := tree.Paths(n, 0)
		if len(paths) != tree.Size(n) || len(paths[0]) > 0 {
			t.Fatalf("Paths of %s: %v", show(n), paths)
		}
		parts := 0
		byOp := map[int][][]int{}
		for i, path := range paths {
			if i > 0 && slices.Compare(paths[i-1], path) >= 0 {
				t.Fatalf("Paths of %s: %v", show(n), paths)
			}
			x, e := tree.At(n, path)
			if e != api.OK {
				t.Fatalf("At(%s, %v): %d", show(n), path, e)
			}
			parts += len(x.L)
			byOp[x.Op] = append(byOp[x.Op], path)
			for j, part := range x.L {
				if got, e := tree.At(n, append(slices.Clone(path), j)); e != api.OK || show(got) != show(part) {
					t.Fatalf("At(%s, %v, %d) = %s, %d", show(n), path, j, show(got), e)
				}
			}
		}
		if parts != len(paths)-1 {
			t.Fatalf("Paths of %s: %v", show(n), paths)
		}
		for op, want := range byOp {
			if got := tree.Paths(n, op); op != 0 && !slices.EqualFunc(got, want, slices.Equal) {
				t.Fatalf("Paths(%s, %d) = %v; want %v", show(n), op, got, want)
			}
		}
	}
}

func TestReplace(t *testing.T) {
	x := node(api.ECall, "x", name("y"))
	for _, c := range []struct {
		path []int
		want api.Node
	}{
		{nil, x}, {[]int{0}, node(api.ECall, "a", x, sample().L[1], sample().L[2])}, {[]int{2}, node(api.ECall, "a", sample().L[0], sample().L[1], x)},
		{[]int{1, 1}, node(api.ECall, "a", sample().L[0], node(api.ECall, "c", name("d"), x), sample().L[2])},
	} {
		if got, e := tree.Replace(sample(), c.path, x); show(got) != show(c.want) || e != api.OK {
			t.Errorf("Replace(%v) = %s, %d; want %s", c.path, show(got), e, show(c.want))
		}
	}
}

// TestReplaceLeavesAllElse looks at each node but the new one and those in the old one.
func TestReplaceLeavesAllElse(t *testing.T) {
	r := rand.New(rand.NewSource(3))
	for range 1000 {
		n, m := anyTree(r, 4), anyTree(r, 3)
		paths := tree.Paths(n, 0)
		at := paths[r.Intn(len(paths))]
		got, e := tree.Replace(n, at, m)
		if x, f := tree.At(got, at); e != api.OK || f != api.OK || show(x) != show(m) {
			t.Fatalf("Replace(%s, %v, %s) = %s, %d", show(n), at, show(m), show(got), e)
		}
		old, _ := tree.At(n, at)
		if tree.Size(got) != tree.Size(n)-tree.Size(old)+tree.Size(m) {
			t.Fatalf("Replace(%s, %v, %s) = %s", show(n), at, show(m), show(got))
		}
		if back, e := tree.Replace(got, at, old); e != api.OK || show(back) != show(n) {
			t.Fatalf("Replace(%s, %v) back: %s, %d", show(n), at, show(back), e)
		}
	}
}

func TestLeaf(t *testing.T) {
	n := placed(1, 9, placed(1, 3), placed(3, 3), placed(4, 8, placed(4, 4), placed(5, 6, placed(5, 6)), placed(7, 8)), placed(9, 9))
	for i, want := range [][]int{{0}, {0}, {}, {2}, {2, 1, 0}, {2}, {2, 2}, {}} {
		token := i + n.From
		if got, e := tree.Leaf(n, token); !slices.Equal(got, want) || e != api.OK {
			t.Errorf("Leaf(%d) = %v, %d; want %v", token, got, e, want)
		}
	}
	for _, token := range []int{0, 9, -1, 10, math.MinInt, math.MaxInt} {
		if got, e := tree.Leaf(n, token); len(got) > 0 || e != api.ErrNone {
			t.Errorf("Leaf(%d) = %v, %d; want ErrNone", token, got, e)
		}
	}
	if got, e := tree.Leaf(api.Node{}, 0); len(got) > 0 || e != api.ErrNone {
		t.Errorf("Leaf of a node without tokens = %v, %d", got, e)
	}
	if got, e := tree.Leaf(placed(0, 4, placed(2, 4), placed(0, 3, placed(0, 3)), placed(2, 3)), 2); !slices.Equal(got, []int{0}) || e != api.OK {
		t.Errorf("Leaf of parts with common tokens = %v, %d; want the first part", got, e)
	}
	if got, e := tree.Leaf(placed(0, 1, placed(0, 3)), 2); len(got) > 0 || e != api.ErrNone {
		t.Errorf("Leaf of a token that the root does not have = %v, %d", got, e)
	}
}

// TestLeafHasTheToken asks for each token of files (P6.5).
func TestLeafHasTheToken(t *testing.T) {
	eachFile(t, func(s string, l []api.Token, view []int, root api.Node) {
		for token := -1; token <= len(l); token++ {
			checkLeaf(t, s, root, token)
		}
	})
	r := rand.New(rand.NewSource(4))
	for range 3000 {
		checkLeaf(t, "any tree", anyTree(r, 5), r.Intn(6)-1)
	}
}

func checkLeaf(t *testing.T, s string, root api.Node, token int) {
	t.Helper()
	has := func(x api.Node) bool { return x.From <= token && token < x.To }
	path, e := tree.Leaf(root, token)
	if !has(root) {
		if len(path) > 0 || e != api.ErrNone {
			t.Fatalf("%q: Leaf(%s, %d) = %v, %d; want ErrNone", s, show(root), token, path, e)
		}
		return
	}
	n, f := tree.At(root, path)
	if e != api.OK || f != api.OK || !has(n) || slices.ContainsFunc(n.L, has) {
		t.Fatalf("%q: Leaf(%s, %d) = %v, %d", s, show(root), token, path, e)
	}
	for i := range path {
		around, _ := tree.At(root, path[:i])
		if !has(around) || slices.IndexFunc(around.L, has) != path[i] {
			t.Fatalf("%q: Leaf(%s, %d) = %v: not the first part of %v", s, show(root), token, path, path[:i])
		}
	}
}

// TestResultsShareNothing changes results, and looks at the arguments and at what a second call returns (R4).
func TestResultsShareNothing(t *testing.T) {
	n, m, path := sample(), sample(), []int{1}
	was := show(n)
	at, _ := tree.At(n, path)
	replaced, _ := tree.Replace(n, path, m)
	plain := tree.Plain(n)
	whole, _ := tree.At(n, nil)
	paths := tree.Paths(n, 0)
	for _, got := range []api.Node{at, replaced, replaced.L[1], replaced.L[1].L[1], plain, plain.L[1], whole, whole.L[1]} {
		for i := range got.L {
			got.L[i] = api.Node{S: "other"}
		}
		_ = append(got.L[:0], api.Node{S: "other"})
	}
	for _, path := range paths {
		_ = append(path, 77)
		for i := range path {
			path[i] = 99
		}
	}
	if show(n) != was || show(m) != was || path[0] != 1 {
		t.Errorf("changed: %s, %s, %v", show(n), show(m), path)
	}
	apart := tree.Paths(n, 0)
	for i := range apart {
		for j := range apart[i] {
			apart[i][j] = 99
		}
		for _, other := range apart[i+1:] {
			if slices.Contains(other, 99) {
				t.Fatalf("paths share memory: %v", apart)
			}
		}
	}
}
