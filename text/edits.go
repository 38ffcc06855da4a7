package text

import (
	"cmp"
	"slices"
	"strings"

	"smocking/api"
)

// Fine tells what is wrong with edits of a text (P1.2).
func Fine(s string, l []api.Edit) api.Errno {
	_, e := fineEdits(s, l)
	return e
}

// Apply makes edits of a text (P1.2).
func Apply(s string, l []api.Edit) (string, api.Errno) {
	edits, e := applicable(s, l)
	if e != api.OK {
		return "", e
	}
	var out strings.Builder
	done := 0
	for _, x := range edits {
		out.WriteString(s[done:x.From])
		out.WriteString(x.Text)
		done = x.To
	}
	out.WriteString(s[done:])
	return out.String(), api.OK
}

// Inverse returns the edits of the new text that make the old one (P1.2).
func Inverse(s string, l []api.Edit) ([]api.Edit, api.Errno) {
	edits, e := applicable(s, l)
	if e != api.OK {
		return nil, e
	}
	back := make([]api.Edit, 0, len(edits))
	moved := 0
	for _, x := range edits {
		from := x.From + moved
		back = append(back, api.Edit{From: from, To: from + len(x.Text), Text: s[x.From:x.To]})
		moved += growth(x)
	}
	return joined(back), api.OK
}

// Merge returns the edits of both lists in order (P1.3).
func Merge(s string, a, b []api.Edit) ([]api.Edit, api.Errno) {
	if e := Fine(s, a); e != api.OK {
		return nil, e
	}
	if e := Fine(s, b); e != api.OK {
		return nil, e
	}
	return fineEdits(s, slices.Concat(a, b))
}

// Over returns b's edits as edits of the text that a's edits make (P1.3).
func Over(s string, a, b []api.Edit) ([]api.Edit, api.Errno) {
	if _, e := Merge(s, a, b); e != api.OK {
		return nil, e
	}
	first := ordered(a)
	var over []api.Edit
	moved := 0
	for _, x := range ordered(b) {
		for len(first) > 0 && compareEdits(first[0], x) < 0 {
			moved += growth(first[0])
			first = first[1:]
		}
		if len(first) > 0 && first[0] == x {
			continue
		}
		over = append(over, api.Edit{From: x.From + moved, To: x.To + moved, Text: x.Text})
	}
	return joined(over), api.OK
}

// applicable returns the edits in order, each once, if Apply can make them.
func applicable(s string, l []api.Edit) ([]api.Edit, api.Errno) {
	edits, e := fineEdits(s, l)
	if e != api.OK {
		return nil, e
	}
	size := len(s)
	for _, x := range edits {
		size += growth(x)
	}
	if size > api.MaxText {
		return nil, api.ErrLimit
	}
	return edits, api.OK
}

// fineEdits returns the edits in order, each once, if they are fine.
func fineEdits(s string, l []api.Edit) ([]api.Edit, api.Errno) {
	if len(s) > api.MaxText || len(l) > api.MaxEdits {
		return nil, api.ErrLimit
	}
	for _, x := range l {
		if x.From < 0 || x.From > x.To || x.To > len(s) {
			return nil, api.ErrRange
		}
	}
	edits := ordered(l)
	if clash(edits) {
		return nil, api.ErrClash
	}
	return edits, api.OK
}

// clash tells whether two of the edits touch, which are in order, each there once. As those that did not touch so
// far are apart, only the end of the last one with bytes and the place of the last one without can be met.
func clash(edits []api.Edit) bool {
	end, point := 0, -1
	for _, x := range edits {
		empty := x.From == x.To
		if x.From < end || empty && x.From == point {
			return true
		}
		if empty {
			point = x.From
		} else {
			end = x.To
		}
	}
	return false
}

// ordered returns the edits in the order in which they are made, equal ones once.
func ordered(l []api.Edit) []api.Edit {
	edits := slices.Clone(l)
	slices.SortFunc(edits, compareEdits)
	return slices.Compact(edits)
}

func compareEdits(a, b api.Edit) int {
	return cmp.Or(cmp.Compare(a.From, b.From), cmp.Compare(a.To, b.To), strings.Compare(a.Text, b.Text))
}

// growth is how many bytes longer an edit makes a text.
func growth(x api.Edit) int {
	return len(x.Text) - (x.To - x.From)
}

// joined makes one edit of those that have no bytes and stand at the same place: in one list they would clash.
func joined(edits []api.Edit) []api.Edit {
	var l []api.Edit
	for len(edits) > 0 {
		n := samePoint(edits)
		x := edits[0]
		if n > 1 {
			x.Text = joinTexts(edits[:n])
		}
		l = append(l, x)
		edits = edits[n:]
	}
	return l
}

// samePoint tells how many of the first edits become one.
func samePoint(edits []api.Edit) int {
	x := edits[0]
	n := 1
	for n < len(edits) && x.From == x.To && edits[n].From == x.From && edits[n].To == x.To {
		n++
	}
	return n
}

func joinTexts(edits []api.Edit) string {
	var all strings.Builder
	for _, x := range edits {
		all.WriteString(x.Text)
	}
	return all.String()
}
