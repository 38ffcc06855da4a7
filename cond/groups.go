package cond

import (
	"slices"

	"smocking/api"
)

// Group is a conditional: what stands from its opening directive to its endif.
type Group struct {
	Lines    []int // the places of its directives in the tokens, the last one is endif
	Branches int
	Parent   int // the group it is in, or -1
	Branch   int // which branch of that one, or 0
}

// begun is a group whose endif may not have come yet.
type begun struct {
	Group
	number  int
	hasElse bool
}

// Groups returns the groups of tokens in the order of their opening lines, or the place of an error (P3.1).
func Groups(l []api.Token) ([]Group, api.Errno, int) {
	kinds := kindsOf(l)
	if countOpening(kinds) > api.MaxGroups {
		return nil, api.ErrLimit, 0
	}
	var all, open []*begun
	for i, kind := range kinds {
		switch kind {
		case "if", "ifdef", "ifndef":
			g := begin(i, len(all), open)
			all = append(all, g)
			open = append(open, g)
		case "elif", "else", "endif":
			last := len(open) - 1
			if last < 0 || !open[last].goOn(i, kind) {
				return nil, api.ErrCond, i
			}
			if kind == "endif" {
				open = open[:last]
			}
		}
	}
	if len(open) > 0 {
		return nil, api.ErrCond, open[len(open)-1].Lines[0]
	}
	return finished(all), api.OK, 0
}

func kindsOf(l []api.Token) []string {
	kinds := make([]string, len(l))
	for i, t := range l {
		kinds[i] = Kind(t)
	}
	return kinds
}

func countOpening(kinds []string) int {
	n := 0
	for _, kind := range kinds {
		if opens(kind) {
			n++
		}
	}
	return n
}

// begin returns a group with its opening directive, within the open ones.
func begin(line, number int, open []*begun) *begun {
	g := &begun{Group: Group{Lines: []int{line}, Parent: -1}, number: number}
	if len(open) > 0 {
		around := open[len(open)-1]
		g.Parent = around.number
		g.Branch = len(around.Lines) - 1
	}
	return g
}

// goOn gives a group its next directive, and tells whether this one may come.
func (g *begun) goOn(line int, kind string) bool {
	if g.hasElse && kind != "endif" {
		return false
	}
	g.Lines = append(g.Lines, line)
	g.Branches = len(g.Lines) - 1
	if kind == "else" {
		g.hasElse = true
	}
	if !g.hasElse {
		g.Branches++
	}
	return true
}

func finished(all []*begun) []Group {
	groups := make([]Group, len(all))
	for i, g := range all {
		groups[i] = g.Group
	}
	return groups
}

// branchAt tells the branch that a token is in, if it is in one of the group.
func (g Group) branchAt(i int) (branch int, ok bool) {
	behind, isLine := slices.BinarySearch(g.Lines, i)
	if isLine || behind == 0 || behind == len(g.Lines) {
		return 0, false
	}
	return behind - 1, true
}
