package parse_test

import (
	"math"
	"math/rand"
	"slices"
	"strings"
	"testing"

	"smocking/api"
	"smocking/cond"
	"smocking/lex"
	"smocking/macro"
	"smocking/parse"
)

// readable returns a view without its Attributes and KEnd.
func readable(l []api.Token, view []int) []int {
	var left []int
	for k := 0; k < len(view); k++ {
		kind, _ := macro.Guess(l, view, k)
		if kind == macro.Attribute {
			behind, _ := macro.Call(l, view, k)
			k = behind - 1
		} else if l[view[k]].Kind != api.KEnd {
			left = append(left, view[k])
		}
	}
	return left
}

var soupWords = strings.Fields(`int int char struct typedef static if else for while do return case default goto break sizeof a a a b f f t t T X X F F 1 'c' "s"
	( ( ( ) ) ) { { { } } } [ ] ; ; ; ; ; , , = = * * + - ! ++ ? : . -> & && << += @ '`)

// soup makes texts of any words, and of readable pieces among them.
func soup(r *rand.Rand) string {
	pieces := []string{"int f(int a){", "}", "int x;", "typedef int t;", "struct s{int a;};", "X(a);", "a(b);", "if(a)", "for(;;)", "f(a){", "each(a){;}", "a.b;", "t x;", "x:", "(t*)a", "X int y;", "return a;",
		"\n#if A\n", "\n#else\n", "\n#endif\n", "\n#x\n", "/* ; */"}
	words := []string{}
	oddness := 1 + r.Intn(20)
	for range r.Intn(30) {
		if r.Intn(oddness) > 0 {
			words = append(words, pieces[r.Intn(len(pieces))])
		} else {
			words = append(words, soupWords[r.Intn(len(soupWords))])
		}
	}
	text := strings.Join(words, " ")
	if r.Intn(2) == 0 {
		return "int g(){" + text + "}"
	}
	return text
}

// checkTree asks for what trees have, whatever they are of (P5.4).
func checkTree(t *testing.T, s string, l []api.Token, view []int, root api.Node) {
	t.Helper()
	seen := readable(l, view)
	inItems := 0
	for _, at := range seen {
		for _, item := range root.L {
			if item.From <= at && at < item.To {
				inItems++
			}
		}
	}
	if inItems != len(seen) {
		t.Fatalf("%q: %d tokens, %d in items of %s", s, len(seen), inItems, showPlaced(root))
	}
	if root.Op != api.OFile || levels(root) > api.MaxNest+1 {
		t.Fatalf("%q: %d levels of %s", s, levels(root), showPlaced(root))
	}
	checkNode(t, s, seen, len(l)-1, root)
}

func checkNode(t *testing.T, s string, seen []int, end int, n api.Node) {
	t.Helper()
	isSeen := func(at int) bool {
		_, ok := slices.BinarySearch(seen, at)
		return ok
	}
	if n.From == n.To {
		if n.From != end && !isSeen(n.From) || len(n.L) > 0 {
			t.Fatalf("%q: without tokens: %s", s, showPlaced(n))
		}
	} else if n.From > n.To || !isSeen(n.From) || !isSeen(n.To-1) {
		t.Fatalf("%q: %s", s, showPlaced(n))
	}
	at := n.From
	for _, part := range n.L {
		if part.From < at || part.From < part.To && part.To > n.To {
			t.Fatalf("%q: %s", s, showPlaced(n))
		}
		at = part.To
		checkNode(t, s, seen, end, part)
	}
}

// TestAnyTextHasATree holds trees of any texts against what all have, and items against Item (P5.2, P5.4).
func TestAnyTextHasATree(t *testing.T) {
	r := rand.New(rand.NewSource(1))
	ops := map[int]int{}
	for range 20000 {
		s := soup(r)
		l, view, root, e := parse.File(s)
		if e != api.OK {
			if e != api.ErrCond || len(l)+len(view) > 0 || !isZero(root) {
				t.Fatalf("File(%q): %d", s, e)
			}
			continue
		}
		checkTree(t, s, l, view, root)
		countOps(root, ops)
		if r.Intn(20) == 0 {
			checkItems(t, s, l, view, root)
		}
	}
	for _, op := range []int{api.ORaw, api.OFunc, api.ODecl, api.OTypedef, api.OStruct, api.OMacro, api.OLoop, api.OLabel, api.ECast, api.EMember} {
		if ops[op] == 0 {
			t.Errorf("no %s", opNames[op])
		}
	}
}

func countOps(n api.Node, ops map[int]int) {
	ops[n.Op]++
	for _, part := range n.L {
		countOps(part, ops)
	}
}

// checkItems asks Item at all places.
func checkItems(t *testing.T, s string, l []api.Token, view []int, root api.Node) {
	t.Helper()
	seen := readable(l, view)
	for at := -2; at < len(seen)+3; at++ {
		want, behind, wantError := api.Node{}, 0, api.ErrRange
		for i, item := range root.L {
			if at >= 0 && at < len(seen) && item.From == seen[at] {
				want, behind, wantError = item, len(seen), api.OK
				if i < len(root.L)-1 {
					behind = slices.Index(seen, root.L[i+1].From)
				}
			}
		}
		n, to, e := parse.Item(l, view, at)
		if e != wantError || to != behind || !alike(n, want) {
			t.Fatalf("Item(%q, %d) = %s, %d, %d; want %s, %d, %d", s, at, showPlaced(n), to, e, showPlaced(want), behind, wantError)
		}
	}
}

func TestItem(t *testing.T) {
	l, view, _ := file(t, "X typedef int t;X int f(){t const x;}@;;")
	for _, c := range []struct {
		at     int
		want   string
		behind int
		e      api.Errno
	}{
		{0, "raw", 5, api.OK}, {5, "raw", 15, api.OK}, {15, "raw", 17, api.OK}, {17, "empty", 18, api.OK}, {1, "op0", 0, api.ErrRange}, {16, "op0", 0, api.ErrRange}, {18, "op0", 0, api.ErrRange},
		{19, "op0", 0, api.ErrRange}, {-1, "op0", 0, api.ErrRange}, {math.MinInt, "op0", 0, api.ErrRange}, {math.MaxInt, "op0", 0, api.ErrRange},
	} {
		if n, behind, e := parse.Item(l, view, c.at); show(n) != c.want || behind != c.behind || e != c.e {
			t.Errorf("Item(%d) = %s, %d, %d; want %s, %d, %d", c.at, show(n), behind, e, c.want, c.behind, c.e)
		}
	}
	l, view, _ = file(t, "typedef int t;X int f(){t const x;}")
	if n, behind, e := parse.Item(l, view, 4); show(n) != "func{type:int name:f block{decl{type:t var:x}}}" || n.From != 5 || behind != 14 || e != api.OK {
		t.Errorf("an item behind a typedef: %s at %d, %d, %d", show(n), n.From, behind, e)
	}
	for _, s := range []string{"", "#a\n"} {
		l, view, _ := file(t, s)
		if n, behind, e := parse.Item(l, view, 0); !isZero(n) || behind != 0 || e != api.ErrRange {
			t.Errorf("Item of %q = %s, %d, %d", s, show(n), behind, e)
		}
	}
	if n, behind, e := parse.Item(nil, nil, 0); !isZero(n) || behind != 0 || e != api.ErrRange {
		t.Errorf("Item of nothing = %s, %d, %d", show(n), behind, e)
	}
}

// goesToEnd tells whether a file's last item is one that goes on as long as there is a text.
func goesToEnd(l []api.Token, view []int, root api.Node) bool {
	if len(root.L) == 0 || root.L[len(root.L)-1].Op != api.ORaw {
		return false
	}
	open := 0
	isEnded := false
	for _, at := range readable(l, view) {
		if at < root.L[len(root.L)-1].From || l[at].Kind != api.KSign {
			continue
		}
		switch l[at].Text {
		case "(", "[", "{":
			open++
		case ")", "]", "}":
			open = max(open-1, 0)
		}
		isEnded = isEnded || open == 0 && (l[at].Text == ";" || l[at].Text == "}")
	}
	return !isEnded
}

// TestItemsBehindChangeNothing puts an item behind a file (P5.5).
func TestItemsBehindChangeNothing(t *testing.T) {
	r := rand.New(rand.NewSource(2))
	tried := 0
	for range 20000 {
		s := soup(r)
		l, view, root, e := parse.File(s)
		if e != api.OK || goesToEnd(l, view, root) {
			continue
		}
		tried++
		more := []string{"int x;", "typedef int t;", "@;", "int f(){a=1;}", "struct s{int a;};", "static t*x;"}[r.Intn(6)]
		_, _, longer := file(t, s+"\n"+more)
		if len(longer.L) != len(root.L)+1 || !slices.EqualFunc(root.L, longer.L[:len(root.L)], alike) {
			t.Fatalf("%q with %q: %s; without %s", s, more, showPlaced(longer), showPlaced(root))
		}
	}
	if tried < 1000 {
		t.Errorf("only %d", tried)
	}
}

// TestUnreadableItemsDisturbNoOthers exchanges an item for one that cannot be read (P5.5).
func TestUnreadableItemsDisturbNoOthers(t *testing.T) {
	r := rand.New(rand.NewSource(3))
	for range 3000 {
		m := &maker{r: r}
		root := m.file()
		if len(root.L) == 0 {
			continue
		}
		i := r.Intn(len(root.L))
		from, to := root.L[i].From, root.L[i].To
		if root.L[i].Op == api.OTypedef || from > 0 && m.words[from-1] == "EXPORT" {
			continue
		}
		text := strings.Join(slices.Concat(m.words[:from], []string{"@", ";"}, m.words[to:]), " ")
		_, _, got := file(t, text)
		if len(got.L) != len(root.L) || showPlaced(got.L[i]) != showPlaced(api.Node{Op: api.ORaw, From: from, To: from + 2}) {
			t.Fatalf("%q: %s", text, showPlaced(got))
		}
		for j, other := range root.L {
			if j < i && !alike(other, got.L[j]) || j > i && show(other) != show(got.L[j]) {
				t.Fatalf("%q: %s; was %s", text, show(got.L[j]), show(other))
			}
		}
	}
}

// TestBlanksChangeOnlyPlaces exchanges what stands before tokens (P5.6).
func TestBlanksChangeOnlyPlaces(t *testing.T) {
	r := rand.New(rand.NewSource(4))
	for range 10000 {
		s := soup(r)
		l, view, root, e := parse.File(s)
		if e != api.OK || strings.Contains(s, "'") {
			continue
		}
		changed := ""
		for i, x := range l {
			if x.Kind == api.KLine || i > 0 && l[i-1].Kind == api.KLine {
				changed += "\n"
			}
			changed += []string{" ", "\n", "\t/* ; } */ ", " // {\n", "\\\n "}[r.Intn(5)]
			if x.Kind == api.KLine {
				changed += "\n"
			}
			changed += x.Text
		}
		other, otherView, got := file(t, changed)
		if !slices.Equal(view, otherView) || !alike(root, got) {
			t.Fatalf("%q: %s; as %q: %s", s, showPlaced(root), changed, showPlaced(got))
		}
		if len(l) != len(other) {
			t.Fatalf("%q: %d tokens; as %q: %d", s, len(l), changed, len(other))
		}
	}
}

// TestParseChangesNothing looks at arguments behind the calls.
func TestParseChangesNothing(t *testing.T) {
	l, _ := lex.Scan("X int f(){a b;}\n#x\nint c={1};MODULE(a)@")
	view, _ := cond.First(l)
	tokens, places := slices.Clone(l), slices.Clone(view)
	first, _ := parse.Parse(l, view)
	shown := showPlaced(first)
	second, _, _ := parse.Item(l, view, 0)
	first.L[0].L[0].S = "other"
	second.L[0].S = "other"
	first.L[1].L = append(first.L[1].L[:1], api.Node{})
	third, _ := parse.Parse(l, view)
	if !slices.Equal(l, tokens) || !slices.Equal(view, places) || showPlaced(third) != shown {
		t.Errorf("changed: %v, %v, %s", l, view, showPlaced(third))
	}
}

func FuzzFile(f *testing.F) {
	for _, s := range []string{"int f(int a) { return a + 1; }", "foo bar baz;", "typedef int t; X struct s { t *a; }; MODULE(a) int x = (t) {1};", "#if A\n}\n#else\n{\n#endif\n;"} {
		f.Add(s)
	}
	f.Fuzz(func(t *testing.T, s string) {
		l, view, root, e := parse.File(s)
		if e == api.OK && len(l) < 2000 {
			checkTree(t, s, l, view, root)
		}
	})
}
