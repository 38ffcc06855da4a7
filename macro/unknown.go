package macro

import (
	"slices"

	"smocking/api"
)

// Unknown returns the names, sorted, of uses that are no values and have no definition (P4.3).
func Unknown(l []api.Token, view []int) ([]string, api.Errno) {
	if !isView(l, view) {
		return nil, api.ErrForm
	}
	s := scene{l, view}
	ends := s.callEnds()
	defs := Defs(l)
	defined := map[string]bool{}
	open := 0
	isOutermost := func() bool { return open == 0 }
	var names []string
	for k, at := range view {
		defs = defineBefore(at, defs, defined)
		t := l[at]
		if t.Kind == api.KName && !defined[t.Text] && s.useAt(k, ends[k], isOutermost).kind() != Value {
			names = append(names, t.Text)
		}
		open = countOpen(open, t, "{", "}")
	}
	slices.Sort(names)
	return slices.Compact(names), api.OK
}

// defineBefore notes what the definitions before a place say, and returns those behind it.
func defineBefore(at int, defs []Def, defined map[string]bool) []Def {
	for len(defs) > 0 && defs[0].At < at {
		defined[defs[0].Name] = !defs[0].Gone
		defs = defs[1:]
	}
	return defs
}
