package cond

import (
	"slices"

	"smocking/api"
)

// condition is what a directive asks: its kind, and the words behind it.
type condition struct {
	kind  string
	words []api.Token
}

// conditions returns the conditions of a group's branches. The last branch, else's or the empty one, has none.
func (g Group) conditions(l []api.Token) []condition {
	var all []condition
	for _, line := range g.Lines[:g.Branches-1] {
		words, _ := Words(l[line])
		all = append(all, condition{words[0].Text, words[1:]})
	}
	return all
}

func (c condition) isExpression() bool {
	return c.kind == "if" || c.kind == "elif"
}

// value tells what a condition counts as by the values of defined names.
func (c condition) value(values map[string]int64) int64 {
	if c.isExpression() {
		n, _ := evaluate(c.words, values)
		return n
	}
	name, ok := c.name()
	_, defined := values[name]
	return oneIf((ok && defined) == (c.kind == "ifdef"))
}

// name returns the name that ifdef or ifndef takes, if it is there.
func (c condition) name() (name string, ok bool) {
	if len(c.words) == 0 || c.words[0].Kind != api.KName {
		return "", false
	}
	return c.words[0].Text, true
}

// names returns the names that a condition asks for.
func (c condition) names() []string {
	var names []string
	if !c.isExpression() {
		if name, ok := c.name(); ok {
			names = append(names, name)
		}
		return names
	}
	for _, w := range c.words {
		if w.Kind == api.KName && w.Text != "defined" {
			names = append(names, w.Text)
		}
	}
	return names
}

// Choose returns the choice by definitions (P3.3).
func Choose(l []api.Token, defs []api.Pair) ([]int, api.Errno) {
	groups, bad, _ := Groups(l)
	if bad != api.OK {
		return nil, bad
	}
	values := valuesOf(defs)
	holds := func(c condition) bool { return c.value(values) != 0 }
	choice := make([]int, len(groups))
	for i, g := range groups {
		branch := slices.IndexFunc(g.conditions(l), holds)
		if branch < 0 {
			branch = g.Branches - 1
		}
		choice[i] = branch
	}
	return choice, api.OK
}

// Names returns the names that the conditions ask for, sorted (P3.4).
func Names(l []api.Token) ([]string, api.Errno) {
	groups, bad, _ := Groups(l)
	if bad != api.OK {
		return nil, bad
	}
	var names []string
	for _, g := range groups {
		for _, c := range g.conditions(l) {
			names = append(names, c.names()...)
		}
	}
	slices.Sort(names)
	return slices.Compact(names), api.OK
}

// Dead returns the branches that conditions without names keep every choice by definitions from taking (P3.4).
func Dead(l []api.Token) ([][2]int, api.Errno) {
	groups, bad, _ := Groups(l)
	if bad != api.OK {
		return nil, bad
	}
	var dead [][2]int
	for i, g := range groups {
		for _, branch := range deadBranches(g.conditions(l)) {
			dead = append(dead, [2]int{i, branch})
		}
	}
	return dead, api.OK
}

// deadBranches returns the dead ones of a group with these conditions.
func deadBranches(conditions []condition) []int {
	var dead []int
	taken := false
	for branch, c := range conditions {
		fixed := len(c.names()) == 0
		holds := c.value(nil) != 0
		if taken || fixed && !holds {
			dead = append(dead, branch)
		}
		if fixed && holds {
			taken = true
		}
	}
	if taken {
		dead = append(dead, len(conditions))
	}
	return dead
}
