package tree

import (
	"slices"

	"smocking/api"
)

// Size counts the nodes of a tree (P6.3).
func Size(n api.Node) int {
	count := 0
	for range preorder(n) {
		count++
	}
	return count
}

// Levels counts the levels of a tree (P6.3).
func Levels(n api.Node) int {
	most := 0
	for path := range preorder(n) {
		most = max(most, len(path)+1)
	}
	return most
}

// Funcs returns the names of a file's functions, in order (P6.3).
func Funcs(n api.Node) []string {
	var names []string
	for _, item := range n.L {
		if item.Op == api.OFunc && len(item.L) > 1 {
			names = append(names, item.L[1].S)
		}
	}
	return names
}

// Names returns all names in a tree, sorted (P6.3).
func Names(n api.Node) []string {
	var names []string
	for _, x := range preorder(n) {
		if x.Op == api.EName {
			names = append(names, x.S)
		}
	}
	slices.Sort(names)
	return slices.Compact(names)
}
