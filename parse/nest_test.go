package parse_test

import (
	"runtime/debug"
	"strings"
	"testing"

	"smocking/api"
	"smocking/parse"
)

// nest is an item around what may stand in itself again and again.
type nest struct {
	begin, open, inside, close, end string
	fixed                           int // levels without repetition
}

func (n nest) text(times int) string {
	return n.begin + strings.Repeat(n.open, times) + n.inside + strings.Repeat(n.close, times) + n.end
}

// nests repeat one level each.
func nests() []nest {
	all := []nest{
		{"int f()", "{", ";", "}", "", 2}, {"typedef int t[", "(", "1", ")", "];", 4}, {"struct s{int a[", "(", "1", ")", "];};", 5}, {"int f(int a[", "(", "1", ")", "]){}", 5},
		{"int a[", "(", "1", ")", "];", 4}, {"int a=", "(", "1", ")", ";", 4}, {"int a={", "{", "1", "}", "};", 5}, {"MODULE(", "(", "a", ")", ");", 3}, {"MODULE(", "f(", "a", ")", ");", 3},
		{"int f(){int a[", "(", "1", ")", "];}", 6}, {"int f(){for(int a=", "!", "1", "", ";;);}", 8}, {"int f(){for(;", "*", "1", "", ";);}", 5}, {"int f(){M(", "(", "a", ")", ")}", 5},
		{"int f(){EACH(", "(", "a", ")", "){}}", 5},
	}
	for _, open := range []string{
		"if(a)", "if(a);else ", "while(a)", "for(;;)", "switch(a)", "x:", "default:", "case 1:",
	} {
		all = append(all, nest{"int f(){", open, ";", "", "}", 3})
	}
	all = append(all, nest{"int f(){", "do ", ";", "while(a);", "}", 3})
	for _, c := range [][2]string{
		{"(", ")"}, {"- ", ""}, {"sizeof ", ""}, {"(int)", ""}, {"", "+a"}, {"", "[1]"}, {"", "()"}, {"", ".b"}, {"", "++"}, {"a[", "]"}, {"f(", ")"}, {"a=", ""}, {"a?b:", ""}, {"a?", ":b"},
		{"", "*b"}, {"!", ""}, {"& ", ""}, {"b(a,", ",a)"},
	} {
		all = append(all, nest{"int f(){return ", c[0], "a", c[1], ";}", 4})
	}
	return all
}

func TestNestLimit(t *testing.T) {
	for _, n := range nests() {
		most := api.MaxNest - n.fixed
		for _, times := range []int{1, most - 1, most, most + 1, most + 2, 3 * most} {
			_, _, root := file(t, "int x;"+n.text(times)+"int y;")
			item := root.L[1]
			if len(root.L) < 3 || root.L[0].Op != api.ODecl || root.L[len(root.L)-1].Op != api.ODecl {
				t.Errorf("%q, %d times: %s", n.text(1), times, showAll(root.L))
			}
			isRaw := item.Op == api.ORaw && len(item.L) == 0
			if isRaw != (times > most) || !isRaw && (levels(item) != n.fixed+times || len(root.L) != 3) {
				t.Errorf("%q, %d times: %d levels of %.200s", n.text(1), times, levels(item), show(item))
			}
		}
	}
}

// TestNestOfTwo has levels of two kinds, that of signs being turned to the other side.
func TestNestOfTwo(t *testing.T) {
	for left := range api.MaxNest {
		for _, right := range []int{api.MaxNest - 5 - left, api.MaxNest - 4 - left} {
			if right < 0 {
				continue
			}
			for _, text := range []string{
				strings.Repeat("(", left) + "a" + strings.Repeat(")", left) + strings.Repeat("+b", right),
				strings.Repeat("- ", left) + "a" + strings.Repeat("[1]", right),
				strings.Repeat("f(a,", left) + "a" + strings.Repeat("*b", right) + strings.Repeat(")", left),
				strings.Repeat("a=", left) + "a" + strings.Repeat("||b", right),
			} {
				_, _, root := file(t, "int f(){return "+text+";}")
				if isRaw := root.L[0].Op == api.ORaw; isRaw != (left+right > api.MaxNest-4) || !isRaw && levels(root.L[0]) != left+right+4 {
					t.Fatalf("%q: %d levels of %s", text, levels(root.L[0]), opNames[root.L[0].Op])
				}
			}
		}
	}
}

// TestNestFarBeyond has texts with as many levels as tokens, for which a small stack must do.
func TestNestFarBeyond(t *testing.T) {
	defer debug.SetMaxStack(debug.SetMaxStack(2 << 20))
	for _, n := range nests() {
		if n.open == "" && n.close == "" {
			continue
		}
		l, view := many(n.begin, n.open, n.inside, 20000)
		root, e := parse.Parse(l, view)
		if e != api.OK || n.open != "" && (len(root.L) != 1 || root.L[0].Op != api.ORaw) {
			t.Errorf("%q: %d items, %d", n.text(1), len(root.L), e)
		}
		l, view = many(n.begin+n.inside, n.close, n.end, 20000)
		if _, e := parse.Parse(l, view); e != api.OK {
			t.Errorf("%q: %d", n.text(1), e)
		}
	}
	_, _, root := file(t, "int f(){f("+strings.Repeat("a,", 10000)+"a);"+strings.Repeat("if(a);else{}", 1000)+"}")
	if len(root.L) != 1 || levels(root.L[0]) != 5 {
		t.Errorf("a wide item: %d levels", levels(root.L[0]))
	}
}

// TestNestAfterNest has items that are left amid their levels ahead of one that is read.
func TestNestAfterNest(t *testing.T) {
	_, _, root := file(t, strings.Repeat("int f(){{{a[b(1 2)];}}}", 2*api.MaxNest)+"int f(){{{a[b(1)];}}}")
	if parse.Raws(root) == 0 || root.L[len(root.L)-1].Op != api.OFunc {
		t.Errorf("%d items, the last one %s", len(root.L), show(root.L[len(root.L)-1]))
	}
}
