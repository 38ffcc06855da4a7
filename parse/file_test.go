package parse_test

import (
	"math"
	"slices"
	"strings"
	"testing"

	"smocking/api"
	"smocking/cond"
	"smocking/lex"
	"smocking/parse"
)

func TestPlacesOfItems(t *testing.T) {
	for _, c := range [][2]string{
		{"", "file(0,0)"}, {" // a\n", "file(0,0)"}, {"#a\n#b\n", "file(2,2)"}, {"#a\n;\n#b\n", "file(1,2){empty(1,2)}"},
		{"#if A\n#else\n;\n#endif\n", "file(4,4)"}, {"#if A\n;\n#else\n;\n#endif\n;#", "file(1,7){empty(1,2) empty(5,6) raw(6,7)}"},
		{"const int*const f(const t a[2]){}", "file(0,15){func(0,15){type(1,4) name(4,5) param(6,12){type(6,8) var(8,12){size(9,12){number(10,11)}}} block(13,15)}}"},
		{"static t*a=1,b,**c[];", "file(0,15){decl(0,15){type(1,2) var(2,6){init(5,6){number(5,6)}} var(7,8) var(9,14){size(12,14)}}}"},
		{"int const a={1,{2},};", "file(0,13){decl(0,13){type(0,2) var(2,12){init(4,12){list(4,12){number(5,6) list(7,10){number(8,9)}}}}}}"},
		{"typedef const int*t;", "file(0,6){typedef(0,6){type(1,3) var(3,5)}}"}, {"struct s{int a,*b;};", "file(0,11){struct(0,11){decl(3,9){type(3,4) var(4,5) var(6,8)}}}"},
		{"M(a,b);M();N", "file(0,12){macro(0,7){call(0,6){name(0,1) name(2,3) name(4,5)}} macro(7,11){call(7,10){name(7,8)}} raw(11,12)}"},
		{"X int a Y(1),b;", "file(1,10){decl(1,10){type(1,2) var(2,3) var(8,9)}}"},
		{"@}", "file(0,2){raw(0,2)}"}, {"@\n#a\n;@", "file(0,4){raw(0,3) raw(3,4)}"}, {"X int", "file(1,2){raw(1,2)}"},
	} {
		_, _, root := file(t, c[0])
		if got := showPlaced(root); got != c[1] {
			t.Errorf("%q:\n got %s\nwant %s", c[0], got, c[1])
		}
	}
}

func TestPlacesInBlocks(t *testing.T) {
	for _, c := range [][2]string{
		{"for(;a;b);x:y:", "for(5,13){first(7,7) test(8,9){name(8,9)} last(10,11){name(10,11)} empty(12,13)} label(13,17){label(15,17){empty(17,17)}}"},
		{"for(int a=1;;){}", "for(5,16){first(7,12){decl(7,12){type(7,8) var(8,11){init(10,11){number(10,11)}}}} test(12,12) last(13,13) block(14,16)}"},
		{"for(;\n#a\n;\n#a\n)\n#a\n;", "for(5,14){first(7,7) test(9,9) last(11,11) empty(13,14)}"}, {"default:\n#a\n", "default(5,7){empty(8,8)}"},
		{"if(a)b;else c;", "if(5,14){name(7,8) expr(9,11){name(9,10)} expr(12,14){name(12,13)}}"}, {"do a;while(b);", "do(5,13){expr(6,8){name(6,7)} name(10,11)}"},
		{"case 1:a;", "case(5,10){number(6,7) expr(8,10){name(8,9)}}"}, {"return a;", "return(5,8){name(6,7)}"}, {"goto a;break;", "goto(5,8) break(8,10)"},
		{"EACH(a){}", "loop(5,11){call(5,9){name(5,6) name(7,8)} block(9,11)}"}, {"DO a=1;", "decl(5,10){type(5,6) var(6,9){init(8,9){number(8,9)}}}"}, {"DO(a){}", "loop(5,11){call(5,9){name(5,6) name(7,8)} block(9,11)}"},
		{"DO(a)b;", "macro(5,9){call(5,9){name(5,6) name(7,8)}} expr(9,11){name(9,10)}"}, {"DO", "macro(5,6){name(5,6)}"}, {"static t a;", "decl(5,9){type(6,7) var(7,8)}"},
		{"return-a[1](b,c).d++;", "return(5,20){unary(6,19){post(7,19){member(7,18){call(7,16){index(7,11){name(7,8) number(9,10)} name(12,13) name(14,15)}}}}}"}, {"a=b?c,d:e;", "expr(5,15){assign(5,14){name(5,6) cond(7,14){name(7,8) comma(9,12){name(9,10) name(11,12)} name(13,14)}}}"},
		{"a+b*(c);", "expr(5,13){binary(5,12){name(5,6) binary(7,12){name(7,8) paren(9,12){name(10,11)}}}}"}, {"(const int*)a;", "expr(5,12){cast(5,11){type(6,9) name(10,11)}}"},
		{"sizeof(int*);", "expr(5,11){sizeof(5,10){type(7,9)}}"}, {"\"a\"\n#a\n\"b\";", "expr(5,9){string(5,8)}"}, {"a\n#if A\n+b\n#else\n+c\n#endif\n;", "expr(5,14){binary(5,9){name(5,6) name(8,9)}}"},
	} {
		_, _, root := file(t, "int f(){"+c[0]+"}")
		var all []string
		for _, n := range root.L[0].L[2].L {
			all = append(all, showPlaced(n))
		}
		if got := strings.Join(all, " "); got != c[1] {
			t.Errorf("%q:\n got %s\nwant %s", c[0], got, c[1])
		}
	}
}

// TestParseOfViews has views that File does not make.
func TestParseOfViews(t *testing.T) {
	l, _ := lex.Scan("int a;\n#x\nint b;")
	for _, c := range []struct {
		view []int
		want string
	}{
		{nil, "file(8,8)"}, {[]int{7}, "file(7,7)"}, {[]int{0, 1, 2}, "file(0,3){decl(0,3){type(0,1) var(1,2)}}"}, {[]int{0, 1, 6, 7}, "file(0,7){decl(0,7){type(0,1) var(1,2)}}"},
		{[]int{2, 6}, "file(2,7){empty(2,3) empty(6,7)}"}, {[]int{0, 5, 6}, "file(0,7){decl(0,7){type(0,1) var(5,6)}}"}, {[]int{1, 4}, "file(1,5){raw(1,5)}"},
	} {
		root, e := parse.Parse(l, c.view)
		if got := showPlaced(root); got != c.want || e != api.OK {
			t.Errorf("Parse(%v) = %s, %d; want %s", c.view, got, e, c.want)
		}
	}
	if root, e := parse.Parse(nil, nil); showPlaced(root) != "file(0,0)" || e != api.OK {
		t.Errorf("Parse of nothing = %s, %d", showPlaced(root), e)
	}
	odd := []api.Token{{Kind: 99, Text: "int"}, {Kind: api.KName, Text: ";"}, {Kind: api.KString, Text: "}"}, {Kind: -1}}
	if root, e := parse.Parse(odd, []int{0, 1, 2, 3}); showPlaced(root) != "file(0,4){raw(0,4)}" || e != api.OK {
		t.Errorf("Parse of odd tokens = %s, %d", showPlaced(root), e)
	}
}

func TestViewsThatAreNone(t *testing.T) {
	l, _ := lex.Scan("a\n#x\n;")
	two := append(slices.Clone(l), api.Token{Kind: api.KEnd})
	for _, c := range []struct {
		l    []api.Token
		view []int
		want api.Errno
	}{
		{l, []int{0, 2, 3}, api.OK}, {l, []int{3}, api.OK}, {l, []int{}, api.OK}, {two, []int{0, 4}, api.OK}, {two, []int{0, 3}, api.OK},
		{l, []int{0, 1, 2, 3}, api.ErrForm}, {l, []int{1}, api.ErrForm}, {l, []int{0, 0}, api.ErrForm}, {l, []int{2, 0}, api.ErrForm}, {l, []int{4}, api.ErrForm}, {l, []int{-1}, api.ErrForm},
		{l, []int{0, 4}, api.ErrForm}, {l, []int{-1, 0}, api.ErrForm}, {l, []int{math.MinInt}, api.ErrForm}, {l, []int{math.MaxInt}, api.ErrForm}, {l, []int{3, 3}, api.ErrForm}, {l, []int{3, 0}, api.ErrForm},
		{two, []int{3, 4}, api.ErrForm}, {two, []int{0, 3, 4}, api.ErrForm}, {nil, []int{0}, api.ErrForm}, {two, []int{3, 1}, api.ErrForm},
	} {
		root, e := parse.Parse(c.l, c.view)
		if e != c.want || e != api.OK && !isZero(root) {
			t.Errorf("Parse(%v) = %s, %d; want %d", c.view, show(root), e, c.want)
		}
		for _, at := range []int{-1, 0, 1, 99} {
			n, behind, e := parse.Item(c.l, c.view, at)
			if c.want != api.OK && (e != c.want || !isZero(n) || behind != 0) {
				t.Errorf("Item(%v, %d) = %s, %d, %d; want %d", c.view, at, show(n), behind, e, c.want)
			}
		}
	}
}

// TestFile holds File against Scan, First and Parse.
func TestFile(t *testing.T) {
	for _, s := range []string{"", "int x;", "#if A\nint x;\n#else\nint y;\n#endif\nX int z;\n", "@"} {
		l, view, root := file(t, s)
		tokens, _ := lex.Scan(s)
		seen, _ := cond.First(tokens)
		if !slices.Equal(l, tokens) || !slices.Equal(view, seen) {
			t.Errorf("File(%q) = %v, %v", s, l, view)
		}
		if want, e := parse.Parse(tokens, seen); e != api.OK || !alike(root, want) {
			t.Errorf("File(%q) = %s; want %s", s, show(root), show(want))
		}
	}
	text := "#if A\n#endif\n"
	for _, c := range []struct {
		name, text string
		want       api.Errno
	}{
		{"an open group", "#if A\n", api.ErrCond}, {"an else alone", "int x;\n#else\n", api.ErrCond}, {"as many groups", strings.Repeat(text, api.MaxGroups), api.OK},
		{"too many groups", strings.Repeat(text, api.MaxGroups+1), api.ErrLimit}, {"a text at the limit", "a" + strings.Repeat(" ", api.MaxText-2) + ";", api.OK},
		{"a text beyond it", "a" + strings.Repeat(" ", api.MaxText-1) + ";", api.ErrLimit}, {"as many tokens", strings.Repeat(";", api.MaxTokens-1), api.OK},
		{"too many tokens", strings.Repeat(";", api.MaxTokens), api.ErrLimit}, {"too many tokens ahead of a group", "#if A\n" + strings.Repeat(";", api.MaxTokens), api.ErrLimit},
	} {
		l, view, root, e := parse.File(c.text)
		if e != c.want || e != api.OK && (len(l) > 0 || len(view) > 0 || !isZero(root)) {
			t.Errorf("%s: %d tokens, %d seen, %d; want %d", c.name, len(l), len(view), e, c.want)
		}
	}
}

// many returns tokens of texts, the second one of which stands several times, with a view of all of them.
func many(first, again, last string, times int) ([]api.Token, []int) {
	var all []api.Token
	add := func(s string) {
		l, _ := lex.Scan(s)
		all = append(all, l[:len(l)-1]...)
	}
	add(first)
	begin := len(all)
	add(again)
	repeated := slices.Clone(all[begin:])
	for range times - 1 {
		all = append(all, repeated...)
	}
	add(last)
	view := make([]int, len(all))
	for i := range view {
		view[i] = i
	}
	return all, view
}

// TestNodeLimit has as many nodes as a tree may have, and more.
func TestNodeLimit(t *testing.T) {
	for _, c := range []struct {
		first, again, last string
		fixed, each        int // nodes
	}{
		{"", ";", "", 1, 1}, {"", "int a;", "", 1, 3}, {"int f(){", "a;", "}", 5, 2}, {"struct s{int a;int ", "a,", "b;};", 8, 1},
	} {
		most := (api.MaxNodes - c.fixed) / c.each
		l, view := many(c.first, c.again, c.last, most)
		root, e := parse.Parse(l, view)
		if e != api.OK || nodes(root) != c.fixed+most*c.each {
			t.Errorf("%q: %d nodes, %d; want %d", c.again, nodes(root), e, c.fixed+most*c.each)
		}
		if n, behind, e := parse.Item(l, view, 0); e != api.OK || !alike(n, root.L[0]) || behind == 0 {
			t.Errorf("%q: the first item: %d, %d", c.again, behind, e)
		}
		l, view = many(c.first, c.again, c.last, most+1)
		if root, e := parse.Parse(l, view); e != api.ErrLimit || !isZero(root) {
			t.Errorf("%q beyond: %d nodes, %d", c.again, nodes(root), e)
		}
		for _, at := range []int{0, -1} {
			if n, behind, e := parse.Item(l, view, at); e != api.ErrLimit || !isZero(n) || behind != 0 {
				t.Errorf("%q beyond: Item(%d) = %d, %d", c.again, at, behind, e)
			}
		}
	}
}

func TestRawsAndTypes(t *testing.T) {
	for _, c := range []struct {
		text  string
		raws  int
		types []string
	}{
		{"", 0, nil}, {"int x;", 0, nil}, {"@;@;int x;@", 3, nil}, {"typedef int b;typedef int a[1];@;typedef int b;", 1, []string{"b", "a", "b"}},
		{"typedef int a=1;typedef int b;", 1, []string{"b"}}, {"int f(){@;}struct s{@};", 2, nil},
	} {
		_, _, root := file(t, c.text)
		if raws, types := parse.Raws(root), parse.Types(root); raws != c.raws || !slices.Equal(types, c.types) {
			t.Errorf("%q: %d, %q; want %d, %q", c.text, raws, types, c.raws, c.types)
		}
	}
	odd := api.Node{Op: api.OFile, L: []api.Node{{Op: api.OTypedef}, {Op: api.OTypedef, L: []api.Node{{Op: api.OType}}}, {Op: api.ORaw, L: []api.Node{{Op: api.ORaw}}}, {}}}
	if raws, types := parse.Raws(odd), parse.Types(odd); raws != 1 || len(types) != 0 {
		t.Errorf("an odd file: %d, %q", raws, types)
	}
	if raws, types := parse.Raws(api.Node{}), parse.Types(api.Node{}); raws != 0 || len(types) != 0 {
		t.Errorf("no file: %d, %q", raws, types)
	}
}
