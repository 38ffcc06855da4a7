package text_test

import (
	"cmp"
	"slices"
	"strings"
	"testing"

	"smocking/api"
	"smocking/text"
)

func edit(from, to int, s string) api.Edit {
	return api.Edit{From: from, To: to, Text: s}
}

// touch is the document's sentence about two different edits.
func touch(x, y api.Edit) bool {
	for at := x.From; at < x.To; at++ {
		if y.From <= at && at < y.To {
			return true
		}
	}
	if x.From == x.To && y.From == y.To {
		return x.From == y.From
	}
	within := func(point, other api.Edit) bool {
		return point.From == point.To && other.From < point.From && point.From < other.To
	}
	return within(x, y) || within(y, x)
}

// fine tells by all pairs whether edits are fine.
func fine(l []api.Edit) bool {
	for i, x := range l {
		for _, y := range l[:i] {
			if x != y && touch(x, y) {
				return false
			}
		}
	}
	return true
}

// made makes fine edits byte by byte: at each place first what is put in there, then what begins there.
func made(s string, l []api.Edit) string {
	var out strings.Builder
	for at := 0; at <= len(s); at++ {
		for _, empty := range []bool{true, false} {
			if i := slices.IndexFunc(l, func(x api.Edit) bool { return x.From == at && (x.To == at) == empty }); i >= 0 {
				out.WriteString(l[i].Text)
			}
		}
		if at < len(s) && !slices.ContainsFunc(l, func(x api.Edit) bool { return x.From <= at && at < x.To }) {
			out.WriteByte(s[at])
		}
	}
	return out.String()
}

// allEdits returns all edits of a text with n bytes that have one of the texts.
func allEdits(n int, texts ...string) []api.Edit {
	var l []api.Edit
	for from := 0; from <= n; from++ {
		for to := from; to <= n; to++ {
			for _, s := range texts {
				l = append(l, edit(from, to, s))
			}
		}
	}
	return l
}

// eachTriple calls do with all lists of three of the edits.
func eachTriple(all []api.Edit, do func(l []api.Edit)) {
	for _, x := range all {
		for _, y := range all {
			for _, z := range all {
				do([]api.Edit{x, y, z})
			}
		}
	}
}

func TestFineAndApplyOfAllSmallLists(t *testing.T) {
	const s = "abc"
	eachTriple(allEdits(len(s), "", "X", "YZ"), func(l []api.Edit) {
		want, e := "", api.ErrClash
		if fine(l) {
			want, e = made(s, l), api.OK
		}
		if got := text.Fine(s, l); got != e {
			t.Fatalf("Fine(%v) = %d; want %d", l, got, e)
		}
		if got, f := text.Apply(s, l); got != want || f != e {
			t.Fatalf("Apply(%v) = %q, %d; want %q, %d", l, got, f, want, e)
		}
	})
}

func TestEditsThatTouchAndDoNot(t *testing.T) {
	for _, c := range []struct {
		l    []api.Edit
		want api.Errno
	}{
		{nil, api.OK},
		{[]api.Edit{edit(1, 1, "x"), edit(1, 3, "y")}, api.OK},
		{[]api.Edit{edit(1, 3, "y"), edit(3, 3, "x")}, api.OK},
		{[]api.Edit{edit(1, 3, "y"), edit(2, 2, "x")}, api.ErrClash},
		{[]api.Edit{edit(1, 3, "y"), edit(2, 2, "")}, api.ErrClash},
		{[]api.Edit{edit(0, 2, "x"), edit(2, 4, "y")}, api.OK},
		{[]api.Edit{edit(0, 2, "x"), edit(1, 3, "x")}, api.ErrClash},
		{[]api.Edit{edit(0, 4, ""), edit(1, 2, "")}, api.ErrClash},
		{[]api.Edit{edit(0, 2, "x"), edit(0, 2, "y")}, api.ErrClash},
		{[]api.Edit{edit(0, 2, "x"), edit(0, 2, "x")}, api.OK},
		{[]api.Edit{edit(2, 2, "x"), edit(2, 2, "y")}, api.ErrClash},
		{[]api.Edit{edit(2, 2, "x"), edit(2, 2, "")}, api.ErrClash},
		{[]api.Edit{edit(2, 2, "x"), edit(2, 2, "x")}, api.OK},
		{[]api.Edit{edit(0, 3, "x"), edit(4, 4, "x"), edit(2, 2, "x")}, api.ErrClash},
	} {
		if got := text.Fine("abcd", c.l); got != c.want {
			t.Errorf("Fine(%v) = %d; want %d", c.l, got, c.want)
		}
	}
}

func TestEditsOutOfRange(t *testing.T) {
	const most = int(^uint(0) >> 1)
	clash := []api.Edit{edit(0, 0, "x"), edit(0, 0, "y")}
	for _, x := range []api.Edit{
		edit(-1, 0, ""), edit(-1, -1, ""), edit(2, 1, ""), edit(0, 4, ""), edit(4, 4, ""), edit(4, 3, ""),
		edit(-most-1, most, ""), edit(most, -most-1, ""),
	} {
		l := append([]api.Edit{x}, clash...)
		if e := text.Fine("abc", l); e != api.ErrRange {
			t.Errorf("Fine(%v) = %d; want ErrRange ahead of ErrClash", l, e)
		}
		if s, e := text.Apply("abc", l); s != "" || e != api.ErrRange {
			t.Errorf("Apply(%v) = %q, %d; want ErrRange", l, s, e)
		}
		if back, e := text.Inverse("abc", l); len(back) != 0 || e != api.ErrRange {
			t.Errorf("Inverse(%v) = %v, %d; want ErrRange", l, back, e)
		}
	}
	if e := text.Fine("abc", []api.Edit{edit(0, 0, "x"), edit(3, 3, ""), edit(0, 3, "")}); e != api.OK {
		t.Errorf("Fine of edits at the ends = %d", e)
	}
}

func TestLimitsOfEdits(t *testing.T) {
	full := strings.Repeat("a", api.MaxText)
	many := make([]api.Edit, api.MaxEdits+1)
	for i := range many {
		many[i] = edit(i, i, "")
	}
	bad := []api.Edit{edit(2, 1, "")}
	if e := text.Fine(full, many[:api.MaxEdits]); e != api.OK {
		t.Errorf("Fine at both limits = %d", e)
	}
	if e := text.Fine(full, many); e != api.ErrLimit {
		t.Errorf("Fine of too many edits = %d", e)
	}
	if e := text.Fine(full+"a", bad); e != api.ErrLimit {
		t.Errorf("Fine of too long a text = %d; want ErrLimit ahead of ErrRange", e)
	}
	if e := text.Fine("", append(bad, many...)); e != api.ErrLimit {
		t.Errorf("Fine of too many edits = %d; want ErrLimit ahead of ErrRange", e)
	}
	if _, e := text.Inverse(full+"a", nil); e != api.ErrLimit {
		t.Errorf("Inverse of too long a text = %d", e)
	}
}

func TestLimitOfTheResult(t *testing.T) {
	full := strings.Repeat("a", api.MaxText)
	for _, c := range []struct {
		s    string
		l    []api.Edit
		want api.Errno
	}{
		{"", []api.Edit{edit(0, 0, full)}, api.OK},
		{"", []api.Edit{edit(0, 0, full), edit(0, 0, full)}, api.OK},
		{"b", []api.Edit{edit(0, 1, full)}, api.OK},
		{"b", []api.Edit{edit(0, 0, full)}, api.ErrLimit},
		{full, []api.Edit{edit(0, 1, ""), edit(api.MaxText, api.MaxText, "b")}, api.OK},
		{full, []api.Edit{edit(api.MaxText, api.MaxText, "b")}, api.ErrLimit},
		{full, []api.Edit{edit(0, 2, "b"), edit(1, 2, "bbb")}, api.ErrClash},
	} {
		if s, e := text.Apply(c.s, c.l); e != c.want || (s == "") != (e != api.OK) {
			t.Errorf("Apply = %d bytes, %d; want %d", len(s), e, c.want)
		}
		if l, e := text.Inverse(c.s, c.l); e != c.want || (len(l) == 0) != (e != api.OK) {
			t.Errorf("Inverse = %d edits, %d; want %d", len(l), e, c.want)
		}
	}
}

func TestInverse(t *testing.T) {
	for _, c := range []struct {
		s       string
		l, want []api.Edit
	}{
		{"abcd", nil, nil},
		{"abcd", []api.Edit{edit(3, 4, "XYZ"), edit(1, 1, "Q")}, []api.Edit{edit(1, 2, ""), edit(4, 7, "d")}},
		{"abcd", []api.Edit{edit(1, 2, "b"), edit(1, 2, "b")}, []api.Edit{edit(1, 2, "b")}},
		{"abcd", []api.Edit{edit(2, 2, "")}, []api.Edit{edit(2, 2, "")}},
		{"abcd", []api.Edit{edit(1, 3, ""), edit(0, 1, "")}, []api.Edit{edit(0, 0, "abc")}},
		{"abcd", []api.Edit{edit(0, 1, ""), edit(1, 1, ""), edit(1, 2, ""), edit(2, 2, "")}, []api.Edit{edit(0, 0, "ab")}},
		{"abcd", []api.Edit{edit(0, 1, ""), edit(1, 2, "XX"), edit(2, 3, "")}, []api.Edit{edit(0, 0, "a"), edit(0, 2, "b"), edit(2, 2, "c")}},
		{"abcd", []api.Edit{edit(0, 1, ""), edit(2, 3, "")}, []api.Edit{edit(0, 0, "a"), edit(1, 1, "c")}},
	} {
		if got, e := text.Inverse(c.s, c.l); !slices.Equal(got, c.want) || e != api.OK {
			t.Errorf("Inverse(%v) = %v, %d; want %v", c.l, got, e, c.want)
		}
	}
}

// TestInverseGivesTheTextBack is P1.5's first sentence.
func TestInverseGivesTheTextBack(t *testing.T) {
	const s = "abc"
	eachTriple(allEdits(len(s), "", "b", "YZ"), func(l []api.Edit) {
		mid, e := text.Apply(s, l)
		if e != api.OK {
			return
		}
		back, e := text.Inverse(s, l)
		if old, f := text.Apply(mid, back); old != s || e != api.OK || f != api.OK {
			t.Fatalf("Inverse(%v) = %v, %d gives %q, %d", l, back, e, old, f)
		}
		if !slices.IsSortedFunc(back, func(x, y api.Edit) int { return cmp.Or(x.From-y.From, x.To-y.To) }) {
			t.Fatalf("Inverse(%v) = %v: not in the order of places", l, back)
		}
	})
}

// TestEditsInAnyOrder is P1.5's second sentence.
func TestEditsInAnyOrder(t *testing.T) {
	const s = "abcdef"
	l := []api.Edit{edit(0, 1, "Q"), edit(1, 1, "R"), edit(1, 3, ""), edit(3, 3, "S"), edit(3, 5, "TT"), edit(6, 6, "U")}
	want, e := text.Apply(s, l)
	if want != "QRSTTfU" || e != api.OK {
		t.Fatalf("Apply = %q, %d", want, e)
	}
	wantBack, _ := text.Inverse(s, l)
	eachOrder(l, func(mixed []api.Edit) {
		old := slices.Clone(mixed)
		if got, e := text.Apply(s, mixed); got != want || e != api.OK {
			t.Fatalf("Apply(%v) = %q, %d; want %q", mixed, got, e, want)
		}
		if got, e := text.Inverse(s, mixed); !slices.Equal(got, wantBack) || e != api.OK {
			t.Fatalf("Inverse(%v) = %v, %d; want %v", mixed, got, e, wantBack)
		}
		if !slices.Equal(mixed, old) {
			t.Fatalf("the argument %v has become %v", old, mixed)
		}
	})
}

// eachOrder calls do with the edits in each order.
func eachOrder(l []api.Edit, do func(l []api.Edit)) {
	var put func(n int)
	mixed := slices.Clone(l)
	put = func(n int) {
		if n == len(mixed) {
			do(mixed)
			return
		}
		for i := n; i < len(mixed); i++ {
			mixed[n], mixed[i] = mixed[i], mixed[n]
			put(n + 1)
			mixed[n], mixed[i] = mixed[i], mixed[n]
		}
	}
	put(0)
}
