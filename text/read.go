package text

import "strings"

// maxDigits is how long a number in a hunk's head may be.
const maxDigits = 9

// reader reads the lines of a difference's text.
type reader struct {
	lines        []string // those that are left
	steps        []step   // those of the hunks read so far
	overA, overB bool     // a line without a line feed was this side's last one
}

// span is one side of a hunk's head: how many lines stand before the hunk, and how many it has.
type span struct {
	before, n int
}

// readHunks reads a difference's text; it tells whether the text is as one.
func readHunks(diff string) ([]hunk, bool) {
	if diff != "" && !hasEnd(diff) {
		return nil, false
	}
	r := reader{lines: Lines(diff)}
	var hunks []hunk
	var endA, endB int
	for len(r.lines) > 0 {
		h, ok := r.hunk()
		// What is between two hunks is kept: both sides have as many lines there.
		if !ok || h.beforeA < endA || h.beforeA-endA != h.beforeB-endB {
			return nil, false
		}
		a, b := sides(h.steps)
		endA, endB = h.beforeA+a, h.beforeB+b
		hunks = append(hunks, h)
	}
	return hunks, true
}

// hunk reads a head and as many lines as it says.
func (r *reader) hunk() (hunk, bool) {
	a, b, ok := readHead(r.lines[0])
	if !ok {
		return hunk{}, false
	}
	r.lines = r.lines[1:]
	start := len(r.steps)
	last := kept
	for a.n > 0 || b.n > 0 {
		t, ok := r.step()
		if !ok || last == come && t.mark == gone {
			return hunk{}, false
		}
		if t.mark != come {
			a.n--
		}
		if t.mark != gone {
			b.n--
		}
		r.steps = append(r.steps, t)
		last = t.mark
	}
	end := len(r.steps)
	own := r.steps[start:end:end]
	if a.n < 0 || b.n < 0 || nextChange(own, 0) == len(own) {
		return hunk{}, false
	}
	return hunk{a.before, b.before, own}, true
}

// step reads a line of a hunk, with the line that tells that it has no line feed.
func (r *reader) step() (step, bool) {
	if len(r.lines) == 0 {
		return step{}, false
	}
	t := step{r.lines[0][0], r.lines[0][1:]}
	r.lines = r.lines[1:]
	ofA, ofB := t.mark == kept || t.mark == gone, t.mark == kept || t.mark == come
	if !ofA && !ofB || ofA && r.overA || ofB && r.overB {
		return step{}, false
	}
	if len(r.lines) > 0 && r.lines[0] == noEnd {
		r.lines = r.lines[1:]
		t.line = strings.TrimSuffix(t.line, "\n")
		r.overA, r.overB = r.overA || ofA, r.overB || ofB
	}
	return t, t.line != ""
}

// readHead reads a hunk's head.
func readHead(line string) (a, b span, ok bool) {
	rest, begins := strings.CutPrefix(line, "@@ ")
	rest, ends := strings.CutSuffix(rest, " @@\n")
	left, right, two := strings.Cut(rest, " ")
	a, okA := readSpan(left)
	b, okB := readSpan(right)
	return a, b, begins && ends && two && okA && okB
}

// readSpan reads one side of a head. The number of the first line is 0 only if there is no line.
func readSpan(s string) (span, bool) {
	left, right, two := strings.Cut(s, ",")
	first, okFirst := readNumber(left)
	n, okN := readNumber(right)
	if n > 0 {
		first--
	}
	return span{first, n}, two && okFirst && okN && first >= 0
}

// readNumber reads a number as Go writes it.
func readNumber(s string) (n int, ok bool) {
	if s == "" || len(s) > maxDigits || s[0] == '0' && s != "0" {
		return 0, false
	}
	for i := range len(s) {
		if s[i] < '0' || s[i] > '9' {
			return 0, false
		}
		n = 10*n + int(s[i]-'0')
	}
	return n, true
}
