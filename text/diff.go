package text

import (
	"strings"

	"smocking/api"
)

// maxDiffLines is the limit of the lines of a text that is compared: a table has an entry for each pair of lines.
const maxDiffLines = 2000

// maxContext is the greatest context of a difference's text.
const maxContext = 20

// The marks that a difference's text puts before lines.
const (
	kept byte = ' '
	gone byte = '-'
	come byte = '+'
)

// step is a line that is kept, goes or comes, with its line feed if it has one.
type step struct {
	mark byte
	line string
}

// Diff returns the text of the difference of two texts (P1.4).
func Diff(a, b string, context int) (string, api.Errno) {
	if !withinLimits(a, b) {
		return "", api.ErrLimit
	}
	if context < 0 || context > maxContext {
		return "", api.ErrRange
	}
	return writeHunks(gather(compare(Lines(a), Lines(b)), context)), api.OK
}

// Edits returns the difference of two texts as edits of the first one (P1.4).
func Edits(a, b string) ([]api.Edit, api.Errno) {
	if !withinLimits(a, b) {
		return nil, api.ErrLimit
	}
	var edits []api.Edit
	at := 0
	for l := compare(Lines(a), Lines(b)); len(l) > 0; {
		if l[0].mark == kept {
			at += len(l[0].line)
			l = l[1:]
			continue
		}
		n := nextKept(l)
		x := runEdit(at, l[:n])
		edits = append(edits, x)
		at = x.To
		l = l[n:]
	}
	return edits, api.OK
}

// runEdit returns a run of changes as the edit of the text in which it begins at a place.
func runEdit(at int, run []step) api.Edit {
	x := api.Edit{From: at, To: at}
	var text strings.Builder
	for _, t := range run {
		if t.mark == gone {
			x.To += len(t.line)
		} else {
			text.WriteString(t.line)
		}
	}
	x.Text = text.String()
	return x
}

// nextKept tells how many changes stand ahead of the first kept line.
func nextKept(l []step) int {
	n := 0
	for n < len(l) && l[n].mark != kept {
		n++
	}
	return n
}

// withinLimits tells whether two texts are small enough for a difference.
func withinLimits(a, b string) bool {
	for _, s := range [2]string{a, b} {
		if len(s) > api.MaxText || moreLines(s, maxDiffLines) {
			return false
		}
	}
	return true
}

// compare returns the difference of two texts' lines.
func compare(a, b []string) []step {
	l := make([]step, 0, len(a)+len(b))
	// Lines that are the same at the beginning are kept in any case; without them the table is small.
	for len(a) > 0 && len(b) > 0 && a[0] == b[0] {
		l = append(l, step{kept, a[0]})
		a, b = a[1:], b[1:]
	}
	most := mostKept(a, b)
	for i, j := 0, 0; i < len(a) || j < len(b); {
		switch {
		case i < len(a) && j < len(b) && a[i] == b[j]:
			l = append(l, step{kept, a[i]})
			i++
			j++
		case i < len(a) && (j == len(b) || most[i+1][j] >= most[i][j+1]):
			l = append(l, step{gone, a[i]})
			i++
		default:
			l = append(l, step{come, b[j]})
			j++
		}
	}
	return l
}

// mostKept returns for each i and j the greatest number of lines that can be kept of a's from i on and b's from j on.
func mostKept(a, b []string) [][]uint16 {
	known := map[string]int{}
	x, y := numbered(a, known), numbered(b, known)
	most := make([][]uint16, len(x)+1)
	for i := range most {
		most[i] = make([]uint16, len(y)+1)
	}
	for i := len(x) - 1; i >= 0; i-- {
		row, below := most[i], most[i+1]
		for j := len(y) - 1; j >= 0; j-- {
			if x[i] == y[j] {
				row[j] = below[j+1] + 1
			} else {
				row[j] = max(below[j], row[j+1])
			}
		}
	}
	return most
}

// numbered returns a number for each line, the same for the same lines, so that long lines are compared only once.
func numbered(lines []string, known map[string]int) []int {
	l := make([]int, len(lines))
	for i, line := range lines {
		n, ok := known[line]
		if !ok {
			n = len(known)
			known[line] = n
		}
		l[i] = n
	}
	return l
}
