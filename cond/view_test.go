package cond_test

import (
	"math/rand"
	"slices"
	"strings"
	"testing"

	"smocking/api"
	"smocking/cond"
)

func TestView(t *testing.T) {
	nested := "a\n#if A\nb\n#ifdef B\nc\n#else\nd\n#endif\n#elif C\ne\n#endif\n#define f\ng\n"
	for _, c := range []struct {
		text   string
		choice []int
		want   []int
	}{
		{"", nil, []int{0}},
		{"a b", []int{}, []int{0, 1, 2}},
		{"#define A 1\na", nil, []int{1, 2}},
		{"#if A\nx\n#else\ny\n#endif", []int{0}, []int{1, 5}},
		{"#if A\nx\n#else\ny\n#endif", []int{1}, []int{3, 5}},
		{"#if A\nx\n#endif", []int{0}, []int{1, 3}},
		{"#if A\nx\n#endif", []int{1}, []int{3}},
		{nested, []int{0, 0}, []int{0, 2, 4, 12, 13}},
		{nested, []int{0, 1}, []int{0, 2, 6, 12, 13}},
		{nested, []int{1, 0}, []int{0, 9, 12, 13}},
		{nested, []int{1, 1}, []int{0, 9, 12, 13}},
		{nested, []int{2, 1}, []int{0, 12, 13}},
	} {
		got, e := cond.View(scan(t, c.text), c.choice)
		if e != api.OK || !slices.Equal(got, c.want) {
			t.Errorf("View(%q, %v) = %v, %d; want %v", c.text, c.choice, got, e, c.want)
		}
	}
	if got, e := cond.View(nil, nil); e != api.OK || len(got) > 0 {
		t.Errorf("View of nothing = %v, %d", got, e)
	}
}

func TestViewErrors(t *testing.T) {
	one := "#if A\n#elif B\n#endif"
	two := one + "\n#if A\n#else\n#endif"
	many := strings.Repeat("#if A\n", api.MaxGroups+1)
	for _, c := range []struct {
		text   string
		choice []int
		want   api.Errno
	}{
		{one, nil, api.ErrRange}, {one, []int{0, 0}, api.ErrRange}, {one, []int{-1}, api.ErrRange}, {one, []int{3}, api.ErrRange},
		{"", []int{0}, api.ErrRange}, {two, []int{0}, api.ErrRange}, {two, []int{2, 2}, api.ErrRange}, {two, []int{0, -1}, api.ErrRange},
		{one + "\n#else", nil, api.ErrCond}, {"#if A", []int{0}, api.ErrCond}, {many, nil, api.ErrLimit},
	} {
		if got, e := cond.View(scan(t, c.text), c.choice); len(got) > 0 || e != c.want {
			t.Errorf("View(%.40q, %v) = %v, %d; want %d", c.text, c.choice, got, e, c.want)
		}
	}
	for _, choice := range [][]int{{2, 0}, {2, 1}, {0, 1}} {
		if _, e := cond.View(scan(t, two), choice); e != api.OK {
			t.Errorf("View(%q, %v): %d", two, choice, e)
		}
	}
}

func TestFirst(t *testing.T) {
	for _, c := range []struct {
		text string
		want []int
	}{
		{"", []int{0}}, {"a", []int{0, 1}}, {"#if 0\nx\n#else\ny\n#endif", []int{1, 5}},
		{"#if 0\n#if 0\nx\n#endif\n#else\n#if 1\ny\n#endif\n#endif\nz", []int{2, 9, 10}},
	} {
		if got, e := cond.First(scan(t, c.text)); e != api.OK || !slices.Equal(got, c.want) {
			t.Errorf("First(%q) = %v, %d; want %v", c.text, got, e, c.want)
		}
	}
	for text, want := range map[string]api.Errno{"#if A": api.ErrCond, strings.Repeat("#if A\n", api.MaxGroups+1): api.ErrLimit} {
		if got, e := cond.First(scan(t, text)); len(got) > 0 || e != want {
			t.Errorf("First(%.40q) = %v, %d; want %d", text, got, e, want)
		}
	}
}

func TestOf(t *testing.T) {
	l := scan(t, "a\n#if A\nb\n#ifdef B\nc\n#else\nd\n#define e\n#endif\n#elif C\nf\n#endif\n")
	want := [][][2]int{
		nil, nil, {{0, 0}}, {{0, 0}}, {{0, 0}, {1, 0}}, {{0, 0}}, {{0, 0}, {1, 1}}, {{0, 0}, {1, 1}}, {{0, 0}}, nil, {{0, 1}},
		nil, nil,
	}
	for i := range l {
		if got, e := cond.Of(l, i); e != api.OK || !slices.Equal(got, want[i]) {
			t.Errorf("Of(%d) = %v, %d; want %v", i, got, e, want[i])
		}
	}
}

func TestOfErrors(t *testing.T) {
	for _, c := range []struct {
		text string
		i    int
		want api.Errno
	}{
		{"a", -1, api.ErrRange}, {"a", 2, api.ErrRange}, {"", 1, api.ErrRange}, {"#if A\n#endif", 3, api.ErrRange},
		{"#if A", 0, api.ErrCond}, {"#if A", 9, api.ErrCond}, {strings.Repeat("#if A\n", api.MaxGroups+1), -1, api.ErrLimit},
	} {
		if got, e := cond.Of(scan(t, c.text), c.i); len(got) > 0 || e != c.want {
			t.Errorf("Of(%.40q, %d) = %v, %d; want %d", c.text, c.i, got, e, c.want)
		}
	}
	if got, e := cond.Of(nil, 0); len(got) > 0 || e != api.ErrRange {
		t.Errorf("Of nothing = %v, %d", got, e)
	}
}

// isChosen tells whether all branches are chosen.
func isChosen(in [][2]int, choice []int) bool {
	for _, b := range in {
		if choice[b[0]] != b[1] {
			return false
		}
	}
	return true
}

// TestViewsAsMade holds views of any choice, and Of, against what the maker of a text knows (P3.5).
func TestViewsAsMade(t *testing.T) {
	r := rand.New(rand.NewSource(3))
	for range 100 {
		m := someText(r)
		l := scan(t, m.text)
		for i := range l {
			if got, e := cond.Of(l, i); e != api.OK || !slices.Equal(got, m.in[i]) {
				t.Fatalf("Of(%q, %d) = %v, %d; want %v", m.text, i, got, e, m.in[i])
			}
		}
		for n := range 5 {
			choice := make([]int, len(m.groups))
			for i, g := range m.groups {
				choice[i] = r.Intn(g.Branches) * min(n, 1)
			}
			var want []int
			for _, i := range m.bare {
				if isChosen(m.in[i], choice) {
					want = append(want, i)
				}
			}
			got, e := cond.View(l, choice)
			if e != api.OK || !slices.Equal(got, want) {
				t.Fatalf("View(%q, %v) = %v, %d; want %v", m.text, choice, got, e, want)
			}
			if first, e := cond.First(l); n == 0 && (e != api.OK || !slices.Equal(first, want)) {
				t.Fatalf("First(%q) = %v, %d; want %v", m.text, first, e, want)
			}
		}
	}
}

// TestEachTokenIsSeen asks for the branches of each token (P3.5).
func TestEachTokenIsSeen(t *testing.T) {
	r := rand.New(rand.NewSource(4))
	for range 100 {
		m := someText(r)
		l := scan(t, m.text)
		for _, i := range m.bare {
			choice := make([]int, len(m.groups))
			in, _ := cond.Of(l, i)
			for _, b := range in {
				choice[b[0]] = b[1]
			}
			if seen, e := cond.View(l, choice); e != api.OK || !slices.Contains(seen, i) {
				t.Fatalf("View(%q, %v) = %v, %d; without %d", m.text, choice, seen, e, i)
			}
		}
	}
}
