package text_test

import (
	"slices"
	"strings"
	"testing"

	"smocking/api"
	"smocking/text"
)

func TestMergeIsInOrder(t *testing.T) {
	a := []api.Edit{edit(4, 4, ""), edit(2, 4, "y"), edit(0, 1, "a")}
	b := []api.Edit{edit(2, 4, "y"), edit(2, 2, "x"), edit(0, 1, "a"), edit(0, 0, "z")}
	want := []api.Edit{edit(0, 0, "z"), edit(0, 1, "a"), edit(2, 2, "x"), edit(2, 4, "y"), edit(4, 4, "")}
	oldA, oldB := slices.Clone(a), slices.Clone(b)
	for range 2 {
		if got, e := text.Merge("abcd", a, b); !slices.Equal(got, want) || e != api.OK {
			t.Errorf("Merge = %v, %d; want %v", got, e, want)
		}
		a, b = b, a
	}
	if !slices.Equal(a, oldA) || !slices.Equal(b, oldB) {
		t.Errorf("the arguments have become %v, %v", a, b)
	}
	if got, e := text.Merge("abcd", nil, []api.Edit{edit(1, 1, "x"), edit(0, 1, ""), edit(1, 1, "x")}); !slices.Equal(got, []api.Edit{edit(0, 1, ""), edit(1, 1, "x")}) || e != api.OK {
		t.Errorf("Merge with an empty list = %v, %d", got, e)
	}
}

func TestMergeLeavesRoomOfItsArgumentAlone(t *testing.T) {
	room := []api.Edit{edit(0, 0, "x"), edit(3, 3, "room")}
	if _, e := text.Merge("abc", room[:1], []api.Edit{edit(1, 1, "y")}); e != api.OK || room[1] != edit(3, 3, "room") {
		t.Errorf("Merge, %d, has written behind its argument: %v", e, room)
	}
}

func TestErrorsOfMergeAndOver(t *testing.T) {
	clash := []api.Edit{edit(0, 0, "x"), edit(0, 0, "y")}
	outside := []api.Edit{edit(4, 4, "")}
	many := make([]api.Edit, api.MaxEdits+1)
	for _, c := range []struct {
		name string
		a, b []api.Edit
		want api.Errno
	}{
		{"a's error is told ahead of b's limit", clash, many, api.ErrClash},
		{"a's error is told ahead of b's range", clash, outside, api.ErrClash},
		{"b's error is told ahead of both together", []api.Edit{edit(0, 2, "x")}, append(outside, edit(1, 1, "")), api.ErrRange},
		{"b's error", nil, clash, api.ErrClash},
		{"a's limit", many, clash, api.ErrLimit},
		{"both touch", []api.Edit{edit(0, 2, "")}, []api.Edit{edit(1, 1, "x")}, api.ErrClash},
		{"both put in unlike texts at one place", []api.Edit{edit(1, 1, "x")}, []api.Edit{edit(1, 1, "y")}, api.ErrClash},
		{"both have MaxEdits together", many[:5000], many[:5000], api.OK},
		{"both have more than MaxEdits together, equal ones too", many[:5000], many[:5001], api.ErrLimit},
	} {
		if l, e := text.Merge("abc", c.a, c.b); e != c.want || e != api.OK && len(l) != 0 {
			t.Errorf("%s: Merge = %d edits, %d; want %d", c.name, len(l), e, c.want)
		}
		if l, e := text.Over("abc", c.a, c.b); e != c.want || e != api.OK && len(l) != 0 {
			t.Errorf("%s: Over = %d edits, %d; want %d", c.name, len(l), e, c.want)
		}
	}
	long := strings.Repeat("a", api.MaxText+1)
	if _, e := text.Merge(long, clash, nil); e != api.ErrLimit {
		t.Errorf("Merge over too long a text = %d", e)
	}
	if _, e := text.Over(long, nil, nil); e != api.ErrLimit {
		t.Errorf("Over over too long a text = %d", e)
	}
}

func TestOver(t *testing.T) {
	for _, c := range []struct {
		name       string
		s          string
		a, b, want []api.Edit
	}{
		{"nothing", "abcd", nil, nil, nil},
		{"nothing before", "abcd", nil, []api.Edit{edit(2, 3, "y"), edit(1, 1, "x")}, []api.Edit{edit(1, 1, "x"), edit(2, 3, "y")}},
		{"an insertion where a's edit begins", "abcd", []api.Edit{edit(1, 2, "QQ")}, []api.Edit{edit(1, 1, "x")}, []api.Edit{edit(1, 1, "x")}},
		{"an insertion where a's edit ends", "abcd", []api.Edit{edit(1, 2, "QQ")}, []api.Edit{edit(2, 2, "x")}, []api.Edit{edit(3, 3, "x")}},
		{"bytes behind a's insertion", "abcd", []api.Edit{edit(1, 1, "QQ")}, []api.Edit{edit(1, 2, "x")}, []api.Edit{edit(3, 4, "x")}},
		{"bytes ahead of a's insertion", "abcd", []api.Edit{edit(2, 2, "QQ")}, []api.Edit{edit(1, 2, "x")}, []api.Edit{edit(1, 2, "x")}},
		{"behind what a takes away", "abcd", []api.Edit{edit(0, 2, ""), edit(2, 3, "Q")}, []api.Edit{edit(3, 4, "")}, []api.Edit{edit(1, 2, "")}},
		{"equal edits are left out, and move what follows", "abcd", []api.Edit{edit(0, 0, "QQ"), edit(2, 3, "")}, []api.Edit{edit(2, 3, ""), edit(0, 0, "QQ"), edit(3, 4, "x")}, []api.Edit{edit(4, 5, "x")}},
		{"equal edits of b", "abcd", []api.Edit{edit(0, 1, "")}, []api.Edit{edit(2, 2, "x"), edit(2, 2, "x")}, []api.Edit{edit(1, 1, "x")}},
		{"insertions that meet", "abcd", []api.Edit{edit(1, 2, ""), edit(2, 3, "")}, []api.Edit{edit(3, 3, "z"), edit(1, 1, "x"), edit(2, 2, "y")}, []api.Edit{edit(1, 1, "xyz")}},
		{"insertions that meet before bytes", "abcd", []api.Edit{edit(1, 2, "")}, []api.Edit{edit(2, 2, "y"), edit(1, 1, "x"), edit(2, 3, "Z"), edit(0, 1, "W")}, []api.Edit{edit(0, 1, "W"), edit(1, 1, "xy"), edit(1, 2, "Z")}},
		{"insertions that a's text keeps apart", "abcd", []api.Edit{edit(1, 2, "Q")}, []api.Edit{edit(1, 1, "x"), edit(2, 2, "y")}, []api.Edit{edit(1, 1, "x"), edit(2, 2, "y")}},
	} {
		if got, e := text.Over(c.s, c.a, c.b); !slices.Equal(got, c.want) || e != api.OK {
			t.Errorf("%s: Over = %v, %d; want %v", c.name, got, e, c.want)
		}
	}
}

// TestMergeIsOneThenTheOther is P1.5's third sentence.
func TestMergeIsOneThenTheOther(t *testing.T) {
	const s = "abc"
	eachTriple(allEdits(len(s), "", "X", "YZ"), func(l []api.Edit) {
		for cut := range 4 {
			a, b := l[:cut], l[cut:]
			all, e := text.Merge(s, a, b)
			over, f := text.Over(s, a, b)
			if e != f || (e == api.OK) != fine(l) {
				t.Fatalf("Merge(%v, %v) = %d, Over %d", a, b, e, f)
			}
			if e != api.OK {
				continue
			}
			want, _ := text.Apply(s, all)
			mid, _ := text.Apply(s, a)
			if got, e := text.Apply(mid, over); got != want || want != made(s, l) || e != api.OK {
				t.Fatalf("a = %v, b = %v: Over = %v gives %q, %d; Merge = %v gives %q", a, b, over, got, e, all, want)
			}
		}
	})
}
