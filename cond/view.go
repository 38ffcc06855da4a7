package cond

import (
	"smocking/api"
)

// View returns the places of the tokens that are seen by a choice (P3.2).
func View(l []api.Token, choice []int) ([]int, api.Errno) {
	groups, bad, _ := Groups(l)
	if bad != api.OK {
		return nil, bad
	}
	if !isChoice(choice, groups) {
		return nil, api.ErrRange
	}
	return view(l, groups, choice), api.OK
}

// First returns the places of the tokens that are seen by the choice of all groups' first branches (P3.2).
func First(l []api.Token) ([]int, api.Errno) {
	groups, bad, _ := Groups(l)
	if bad != api.OK {
		return nil, bad
	}
	return view(l, groups, make([]int, len(groups))), api.OK
}

// isChoice tells whether a list has one branch for each group.
func isChoice(choice []int, groups []Group) bool {
	if len(choice) != len(groups) {
		return false
	}
	for i, g := range groups {
		if choice[i] < 0 || choice[i] >= g.Branches {
			return false
		}
	}
	return true
}

func view(l []api.Token, groups []Group, choice []int) []int {
	hidden := make([]bool, len(l))
	for i, g := range groups {
		for branch := range len(g.Lines) - 1 {
			if branch != choice[i] {
				hide(hidden[g.Lines[branch]:g.Lines[branch+1]])
			}
		}
	}
	var seen []int
	for i, t := range l {
		if t.Kind != api.KLine && !hidden[i] {
			seen = append(seen, i)
		}
	}
	return seen
}

func hide(hidden []bool) {
	for i := range hidden {
		hidden[i] = true
	}
}

// Of returns the groups and branches that a token is in, from outside in (P3.4).
func Of(l []api.Token, i int) ([][2]int, api.Errno) {
	groups, bad, _ := Groups(l)
	if bad != api.OK {
		return nil, bad
	}
	if i < 0 || i >= len(l) {
		return nil, api.ErrRange
	}
	var in [][2]int
	// A group around another one opens before it, and so has a smaller number.
	for number, g := range groups {
		if branch, ok := g.branchAt(i); ok {
			in = append(in, [2]int{number, branch})
		}
	}
	return in, api.OK
}
