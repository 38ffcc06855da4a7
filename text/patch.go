package text

import (
	"strings"

	"smocking/api"
)

// Patch makes the hunks of a difference of a text (P1.4).
func Patch(s, diff string) (string, api.Errno) {
	if len(s) > api.MaxText || len(diff) > api.MaxText {
		return "", api.ErrLimit
	}
	hunks, ok := readHunks(diff)
	if !ok {
		return "", api.ErrForm
	}
	lines, ok := patched(Lines(s), hunks)
	if !ok || !joinable(lines) {
		return "", api.ErrApply
	}
	size := 0
	for _, line := range lines {
		size += len(line)
	}
	if size > api.MaxText {
		return "", api.ErrLimit
	}
	return strings.Join(lines, ""), api.OK
}

// Reverse exchanges the sides of a difference (P1.4).
func Reverse(diff string) (string, api.Errno) {
	hunks, ok := readHunks(diff)
	if !ok {
		return "", api.ErrForm
	}
	for i, h := range hunks {
		hunks[i] = h.reversed()
	}
	return writeHunks(hunks), api.OK
}

// patched returns the lines that the hunks make, if each kept or gone line is at its place.
func patched(lines []string, hunks []hunk) ([]string, bool) {
	var out []string
	done := 0
	for _, h := range hunks {
		if h.beforeA > len(lines) {
			return nil, false
		}
		out = append(out, lines[done:h.beforeA]...)
		done = h.beforeA
		for _, t := range h.steps {
			if t.mark != come {
				if done == len(lines) || lines[done] != t.line {
					return nil, false
				}
				done++
			}
			if t.mark != gone {
				out = append(out, t.line)
			}
		}
	}
	return append(out, lines[done:]...), true
}

// joinable tells whether lines stay lines if they stand one behind the other: only the last one may lack its line
// feed.
func joinable(lines []string) bool {
	for i, line := range lines {
		if !hasEnd(line) && i+1 < len(lines) {
			return false
		}
	}
	return true
}

// reversed exchanges a hunk's sides. A run's gone lines come then, and have to wait for those that go.
func (h hunk) reversed() hunk {
	l := make([]step, 0, len(h.steps))
	var waiting []step
	for _, t := range h.steps {
		switch t.mark {
		case gone:
			waiting = append(waiting, step{come, t.line})
		case come:
			l = append(l, step{gone, t.line})
		default:
			l = append(l, waiting...)
			l = append(l, t)
			waiting = nil
		}
	}
	return hunk{h.beforeB, h.beforeA, append(l, waiting...)}
}
