package text

import (
	"strconv"
	"strings"
)

// noEnd is the line that follows a line without a line feed.
const noEnd = "\\ no end\n"

// hunk is a part of a difference: how many lines of a and of b stand before it, and its lines.
type hunk struct {
	beforeA, beforeB int
	steps            []step
}

// gather puts changes with at most twice the context between them into one hunk.
func gather(l []step, context int) []hunk {
	var hunks []hunk
	var beforeA, beforeB, counted int
	for first := nextChange(l, 0); first < len(l); {
		end := first + 1
		next := nextChange(l, end)
		for next < len(l) && next-end <= 2*context {
			end = next + 1
			next = nextChange(l, end)
		}
		from, to := max(first-context, 0), min(end+context, len(l))
		a, b := sides(l[counted:from])
		beforeA, beforeB, counted = beforeA+a, beforeB+b, from
		// A hunk ends where its slice's room ends: nothing appended to it can get into the next one's lines.
		hunks = append(hunks, hunk{beforeA, beforeB, l[from:to:to]})
		first = next
	}
	return hunks
}

// nextChange returns the place of the first change from a place on, or the number of lines.
func nextChange(l []step, from int) int {
	for from < len(l) && l[from].mark == kept {
		from++
	}
	return from
}

// sides tells how many of a difference's lines are lines of a, and how many of b.
func sides(l []step) (a, b int) {
	for _, t := range l {
		if t.mark != come {
			a++
		}
		if t.mark != gone {
			b++
		}
	}
	return a, b
}

func writeHunks(hunks []hunk) string {
	var out strings.Builder
	for _, h := range hunks {
		a, b := sides(h.steps)
		out.WriteString("@@ " + writeSpan(h.beforeA, a) + " " + writeSpan(h.beforeB, b) + " @@\n")
		for _, t := range h.steps {
			out.WriteByte(t.mark)
			out.WriteString(t.line)
			if !hasEnd(t.line) {
				out.WriteString("\n" + noEnd)
			}
		}
	}
	return out.String()
}

// writeSpan writes one side of a head: n lines behind as many as stand before.
func writeSpan(before, n int) string {
	first := before
	if n > 0 {
		first++
	}
	return strconv.Itoa(first) + "," + strconv.Itoa(n)
}
