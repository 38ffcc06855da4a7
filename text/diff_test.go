package text_test

import (
	"slices"
	"strconv"
	"strings"
	"testing"

	"smocking/api"
	"smocking/text"
)

// keepable is L of the document, of two lists of lines.
func keepable(a, b []string) int {
	if len(a) == 0 || len(b) == 0 {
		return 0
	}
	if a[0] == b[0] {
		return 1 + keepable(a[1:], b[1:])
	}
	return max(keepable(a[1:], b), keepable(a, b[1:]))
}

// difference returns the lines of a difference, each with its mark, by the document's rule for each step.
func difference(a, b []string) []string {
	switch {
	case len(a) == 0 && len(b) == 0:
		return nil
	case len(a) > 0 && len(b) > 0 && a[0] == b[0]:
		return append([]string{" " + a[0]}, difference(a[1:], b[1:])...)
	case len(a) > 0 && (len(b) == 0 || keepable(a[1:], b) >= keepable(a, b[1:])):
		return append([]string{"-" + a[0]}, difference(a[1:], b)...)
	}
	return append([]string{"+" + b[0]}, difference(a, b[1:])...)
}

// told writes a difference's lines as the document says, line by line: a line is told if a change is near enough.
func told(l []string, context int) string {
	near := make([]bool, len(l))
	for i, line := range l {
		if line[0] == ' ' {
			continue
		}
		for j := max(i-context, 0); j <= min(i+context, len(l)-1); j++ {
			near[j] = true
		}
	}
	var out strings.Builder
	before := [2]int{}
	for i := 0; i < len(l); {
		if !near[i] {
			before[0], before[1], i = before[0]+1, before[1]+1, i+1
			continue
		}
		body, size := "", [2]int{}
		for ; i < len(l) && near[i]; i++ {
			if l[i][0] != '+' {
				size[0]++
			}
			if l[i][0] != '-' {
				size[1]++
			}
			body += l[i]
			if !strings.HasSuffix(l[i], "\n") {
				body += "\n\\ no end\n"
			}
		}
		out.WriteString("@@")
		for side := range 2 {
			first := before[side]
			if size[side] > 0 {
				first++
			}
			out.WriteString(" " + strconv.Itoa(first) + "," + strconv.Itoa(size[side]))
			before[side] += size[side]
		}
		out.WriteString(" @@\n" + body)
	}
	return out.String()
}

// smallTexts returns all texts with up to most lines a, b or empty, and those whose last line has no line feed.
func smallTexts(most int) []string {
	all, last := []string{""}, []string{""}
	for range most {
		var next []string
		for _, s := range last {
			all = append(all, s+"a", s+"b")
			next = append(next, s+"a\n", s+"b\n", s+"\n")
		}
		all = append(all, next...)
		last = next
	}
	return all
}

func TestDiffOfAllSmallTexts(t *testing.T) {
	texts := smallTexts(3)
	for _, a := range texts {
		for _, b := range texts {
			asSaid(t, a, b, 0, 1, 2)
		}
	}
}

// asSaid holds Diff against the document's words, with each context.
func asSaid(t *testing.T, a, b string, contexts ...int) {
	t.Helper()
	l := difference(text.Lines(a), text.Lines(b))
	for _, context := range contexts {
		want := told(l, context)
		if got, e := text.Diff(a, b, context); got != want || e != api.OK {
			t.Fatalf("Diff(%q, %q, %d) = %q, %d; want %q", a, b, context, got, e, want)
		}
		turnedBack(t, a, b, context)
	}
}

// turnedBack is P1.6.
func turnedBack(t *testing.T, a, b string, context int) {
	t.Helper()
	d, e := text.Diff(a, b, context)
	if got, f := text.Patch(a, d); got != b || e != api.OK || f != api.OK {
		t.Fatalf("Patch(%q, %q) = %q, %d; want %q", a, d, got, f, b)
	}
	r, e := text.Reverse(d)
	if got, f := text.Patch(b, r); got != a || e != api.OK || f != api.OK {
		t.Fatalf("Patch(%q, %q) = %q, %d; want %q", b, r, got, f, a)
	}
	if again, e := text.Reverse(r); again != d || e != api.OK {
		t.Fatalf("Reverse twice of %q = %q, %d", d, again, e)
	}
	l, e := text.Edits(a, b)
	if got, f := text.Apply(a, l); got != b || e != api.OK || f != api.OK {
		t.Fatalf("Edits(%q, %q) = %v, %d give %q, %d", a, b, l, e, got, f)
	}
}

// numbers is a row of numbers below a bound, always the same one.
type numbers uint32

func (n *numbers) below(bound int) int {
	*n = *n*1664525 + 1013904223
	return int(*n>>16) % bound
}

// longText returns a text with many equal lines among others.
func longText(n *numbers, lines, kinds int) string {
	var s strings.Builder
	for range lines {
		s.WriteString(strconv.Itoa(n.below(kinds)) + "\n")
	}
	if n.below(2) == 0 {
		return strings.TrimSuffix(s.String(), "\n")
	}
	return s.String()
}

func TestDiffOfLongerTexts(t *testing.T) {
	n := numbers(1)
	for range 300 {
		a := longText(&n, n.below(12), 4)
		b := longText(&n, n.below(12), 4)
		asSaid(t, a, b, 0, 1, 3, 20)
	}
	for range 20 {
		a := longText(&n, 200, 50)
		b := longText(&n, 200, 50)
		turnedBack(t, a, b, n.below(21))
	}
}

// TestNoFewerLinesCanGoAndCome is P1.7.
func TestNoFewerLinesCanGoAndCome(t *testing.T) {
	texts := smallTexts(3)
	n := numbers(7)
	for range 200 {
		texts = append(texts, longText(&n, n.below(9), 3))
	}
	for i, a := range texts {
		b := texts[(i*31+17)%len(texts)]
		x, y := text.Lines(a), text.Lines(b)
		d, e := text.Diff(a, b, 0)
		changes := 0
		for _, line := range text.Lines(d) {
			if line[0] == '-' || line[0] == '+' {
				changes++
			}
		}
		if want := len(x) + len(y) - 2*keepable(x, y); changes != want || e != api.OK {
			t.Errorf("Diff(%q, %q, 0) = %q, %d: %d lines go and come; want %d", a, b, d, e, changes, want)
		}
	}
}

func TestDiffAsWritten(t *testing.T) {
	for _, c := range []struct {
		a, b    string
		context int
		want    string
	}{
		{"a\nb\n", "a\nc\n", 1, "@@ 1,2 1,2 @@\n a\n-b\n+c\n"},
		{"", "", 0, ""},
		{"a", "a", 20, ""},
		{"", "a", 3, "@@ 0,0 1,1 @@\n+a\n\\ no end\n"},
		{"a\n", "", 3, "@@ 1,1 0,0 @@\n-a\n"},
		{"a\nb\n", "b\n", 0, "@@ 1,1 0,0 @@\n-a\n"},
		{"a\nb\n", "a\n", 0, "@@ 2,1 1,0 @@\n-b\n"},
		{"a\n", "a", 0, "@@ 1,1 1,1 @@\n-a\n+a\n\\ no end\n"},
		{"a", "b", 0, "@@ 1,1 1,1 @@\n-a\n\\ no end\n+b\n\\ no end\n"},
		{"a\nz", "b\nz", 1, "@@ 1,2 1,2 @@\n-a\n+b\n z\n\\ no end\n"},
		{"a\nb\n", "b\na\n", 3, "@@ 1,2 1,2 @@\n-a\n b\n+a\n"},
		{"\\ no end\n", "@@ 1,1 1,1 @@\n", 0, "@@ 1,1 1,1 @@\n-\\ no end\n+@@ 1,1 1,1 @@\n"},
		{"1\n2\n3\n4\n5\n", "x\n2\n3\n4\ny\n", 1, "@@ 1,2 1,2 @@\n-1\n+x\n 2\n@@ 4,2 4,2 @@\n 4\n-5\n+y\n"},
		{"1\n2\n3\n4\n", "x\n2\n3\ny\n", 1, "@@ 1,4 1,4 @@\n-1\n+x\n 2\n 3\n-4\n+y\n"},
		{"1\n2\n3\n", "x\n2\ny\n", 0, "@@ 1,1 1,1 @@\n-1\n+x\n@@ 3,1 3,1 @@\n-3\n+y\n"},
		{"1\n2\n3\n", "2\n3\n4\n", 0, "@@ 1,1 0,0 @@\n-1\n@@ 3,0 3,1 @@\n+4\n"},
	} {
		if got, e := text.Diff(c.a, c.b, c.context); got != c.want || e != api.OK {
			t.Errorf("Diff(%q, %q, %d) = %q, %d; want %q", c.a, c.b, c.context, got, e, c.want)
		}
		turnedBack(t, c.a, c.b, c.context)
	}
}

func TestLimitsOfDiffAndEdits(t *testing.T) {
	lines := strings.Repeat("\n", 2000)
	full := strings.Repeat("a", api.MaxText)
	for _, c := range []struct {
		name string
		s    string
		want api.Errno
	}{
		{"2000 lines", lines, api.OK},
		{"2000 lines, the last one without a line feed", lines[1:] + "a", api.OK},
		{"2001 lines", lines + "\n", api.ErrLimit},
		{"2001 lines, the last one without a line feed", lines + "a", api.ErrLimit},
		{"MaxText bytes", full, api.OK},
		{"more than MaxText bytes", full + "a", api.ErrLimit},
	} {
		for _, sides := range [][2]string{{c.s, "x\n"}, {"x\n", c.s}} {
			if d, e := text.Diff(sides[0], sides[1], 20); e != c.want || (d == "") != (e != api.OK) {
				t.Errorf("%s: Diff = %d bytes, %d; want %d", c.name, len(d), e, c.want)
			}
			if l, e := text.Edits(sides[0], sides[1]); e != c.want || (len(l) == 0) != (e != api.OK) {
				t.Errorf("%s: Edits = %v, %d; want %d", c.name, l, e, c.want)
			}
		}
		want := api.ErrRange
		if c.want == api.ErrLimit {
			want = api.ErrLimit
		}
		if _, e := text.Diff(c.s, "", 21); e != want {
			t.Errorf("%s: Diff with the context 21 = %d; want %d", c.name, e, want)
		}
	}
	if d, e := text.Diff(lines, strings.Repeat("a\n", 2000), 0); len(d) == 0 || e != api.OK {
		t.Errorf("Diff of two texts of 2000 lines = %d bytes, %d", len(d), e)
	}
}

func TestContextOutOfRange(t *testing.T) {
	const most = int(^uint(0) >> 1)
	for _, context := range []int{-1, 21, most, -most - 1} {
		for _, b := range []string{"a\n", "b\n"} {
			if d, e := text.Diff("a\n", b, context); d != "" || e != api.ErrRange {
				t.Errorf("Diff with the context %d = %q, %d; want ErrRange", context, d, e)
			}
		}
	}
}

func TestEditsAreRunsOfWholeLines(t *testing.T) {
	for _, c := range []struct {
		a, b string
		want []api.Edit
	}{
		{"a\n", "a\n", nil},
		{"", "", nil},
		{"", "a\nb", []api.Edit{edit(0, 0, "a\nb")}},
		{"a\nb\n", "", []api.Edit{edit(0, 4, "")}},
		{"a", "a\n", []api.Edit{edit(0, 1, "a\n")}},
		{"a\nbb\nc\n", "a\nxy\nc\n", []api.Edit{edit(2, 5, "xy\n")}},
		{"a\nb\nc\n", "x\nb\ny\nz\n", []api.Edit{edit(0, 2, "x\n"), edit(4, 6, "y\nz\n")}},
		{"a\nb\nc\n", "b\nd\nc\ne\n", []api.Edit{edit(0, 2, ""), edit(4, 4, "d\n"), edit(6, 6, "e\n")}},
	} {
		if got, e := text.Edits(c.a, c.b); !slices.Equal(got, c.want) || e != api.OK {
			t.Errorf("Edits(%q, %q) = %v, %d; want %v", c.a, c.b, got, e, c.want)
		}
	}
}
