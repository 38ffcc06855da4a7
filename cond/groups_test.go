package cond_test

import (
	"fmt"
	"math/rand"
	"reflect"
	"slices"
	"strings"
	"testing"

	"smocking/api"
	"smocking/cond"
)

func TestGroups(t *testing.T) {
	for _, c := range []struct {
		text string
		want []cond.Group
	}{
		{"", nil},
		{"a #if b", nil},
		{"#define A\n#include <b>\n#pragma c\n#", nil},
		{"#if A\nx\n#else\ny\n#endif\n", []cond.Group{{Lines: []int{0, 2, 4}, Branches: 2, Parent: -1}}},
		{"#if 0\nx\n#endif", []cond.Group{{Lines: []int{0, 2}, Branches: 2, Parent: -1}}},
		{"#ifdef A\n#endif", []cond.Group{{Lines: []int{0, 1}, Branches: 2, Parent: -1}}},
		{"#ifndef A\n#elif B\n#elif C\n#endif", []cond.Group{{Lines: []int{0, 1, 2, 3}, Branches: 4, Parent: -1}}},
		{"x\n#if A\n#elif B\ny\n#else\n#endif", []cond.Group{{Lines: []int{1, 2, 4, 5}, Branches: 3, Parent: -1}}},
		{"#if\n#if\n#else\n#endif\n#elif\n#if\n#endif\n#else\n#if\n#endif\n#endif\n#if\n#endif", []cond.Group{
			{Lines: []int{0, 4, 7, 10}, Branches: 3, Parent: -1},
			{Lines: []int{1, 2, 3}, Branches: 2, Parent: 0},
			{Lines: []int{5, 6}, Branches: 2, Parent: 0, Branch: 1},
			{Lines: []int{8, 9}, Branches: 2, Parent: 0, Branch: 2},
			{Lines: []int{11, 12}, Branches: 2, Parent: -1},
		}},
	} {
		got, e, at := cond.Groups(scan(t, c.text))
		if e != api.OK || at != 0 || len(got)+len(c.want) > 0 && !reflect.DeepEqual(got, c.want) {
			t.Errorf("Groups(%q) = %v, %d, %d; want %v", c.text, got, e, at, c.want)
		}
	}
}

func TestGroupsErrors(t *testing.T) {
	for _, c := range []struct {
		text string
		at   int
	}{
		{"#else", 0}, {"x\n#elif A", 1}, {"x y\n#endif", 2},
		{"#if A\n#else\n#else\n#endif", 2}, {"#if A\n#else\n#elif B\n#endif", 2},
		{"#if A\n#endif\n#endif", 2}, {"#if A\n#endif\n#else", 2},
		{"x\n#if A", 1}, {"#if A\n#else", 0}, {"#if A\n#if B\nx", 1}, {"#if A\n#if B\n#endif", 0},
		{"#if A\n#if B\n#endif\n#if C\n#else\nx", 3},
		{"#if A\n#if B\n#else\n#else", 3}, {"#endif\n#if A", 0}, {"#elif\n#else", 0},
	} {
		got, e, at := cond.Groups(scan(t, c.text))
		if len(got) > 0 || e != api.ErrCond || at != c.at {
			t.Errorf("Groups(%q) = %v, %d, %d; want place %d", c.text, got, e, at, c.at)
		}
	}
}

func TestGroupsLimit(t *testing.T) {
	side := strings.Repeat("#if A\n#endif\n", api.MaxGroups-2)
	inside := strings.Repeat("#ifdef A\n", api.MaxGroups) + strings.Repeat("#endif\n", api.MaxGroups)
	for _, text := range []string{side + "#ifdef B\n#endif\n#ifndef C\n#endif\n", inside} {
		if got, e, _ := cond.Groups(scan(t, text)); e != api.OK || len(got) != api.MaxGroups {
			t.Errorf("%d groups: %d", len(got), e)
		}
	}
	for _, text := range []string{
		side + "#ifdef B\n#endif\n#ifndef C\n#endif\n#if D\n#endif\n", "#ifndef B\n" + inside + "#endif\n",
		"#endif\n" + side + "#if\n#ifdef\n#ifndef\n", strings.Repeat("#if\n", api.MaxGroups+1),
	} {
		if got, e, at := cond.Groups(scan(t, text)); len(got) > 0 || e != api.ErrLimit || at != 0 {
			t.Errorf("%d groups: %d, %d", len(got), e, at)
		}
	}
}

// made is a text with what its maker knows of it.
type made struct {
	text   string
	tokens int
	groups []cond.Group
	// in has the branches that each token is in, from outside in.
	in [][][2]int
	// bare has the places of tokens that are no directives.
	bare []int
}

func (m *made) put(line string, in [][2]int) {
	m.text += line + "\n"
	if !strings.HasPrefix(line, "#") {
		m.bare = append(m.bare, m.tokens)
	}
	m.tokens++
	m.in = append(m.in, slices.Clone(in))
}

// fill puts some lines and groups into branches.
func (m *made) fill(r *rand.Rand, in [][2]int) {
	for range r.Intn(4) {
		switch r.Intn(4) {
		case 0:
			m.put(someLines[r.Intn(len(someLines))], in)
		case 1:
			m.put("x", in)
		default:
			if len(in) < 4 && len(m.groups) < 30 {
				m.group(r, in)
			}
		}
	}
}

var someLines = []string{"#define A 1", "#undef B", "#include <if.h>", "#pragma if", "#", "# 1 if"}

var someConditions = []string{
	"A", "B", "A + B", "A > 1", "!defined A", "defined(C) || B", "C == D", "0", "1", "", "2 - 2", "int", "1 +", "A +", "A B",
	"defined", "defined defined", "defined + A", "0 0", "(0)", "07 % 7", "1 / 0", "\"A\"", "-D", "A && 0",
}

func someOpening(r *rand.Rand) string {
	kind := []string{"#if ", "#  if ", "#ifdef ", "#ifndef "}[r.Intn(4)]
	return kind + someConditions[r.Intn(len(someConditions))]
}

// group puts a group into branches.
func (m *made) group(r *rand.Rand, in [][2]int) {
	number := len(m.groups)
	g := cond.Group{Parent: -1, Branches: 1}
	if len(in) > 0 {
		g.Parent, g.Branch = in[len(in)-1][0], in[len(in)-1][1]
	}
	m.groups = append(m.groups, g)
	directive := func(line string) {
		g.Lines = append(g.Lines, m.tokens)
		m.put(line, in)
	}
	branch := func() {
		m.fill(r, append(slices.Clone(in), [2]int{number, g.Branches - 1}))
		g.Branches++
	}
	directive(someOpening(r))
	branch()
	for range r.Intn(3) {
		directive("#elif " + someConditions[r.Intn(len(someConditions))])
		branch()
	}
	if r.Intn(2) == 0 {
		directive("#else")
		branch()
		g.Branches--
	}
	directive("#endif")
	m.groups[number] = g
}

// someText makes a text of nested groups.
func someText(r *rand.Rand) *made {
	m := &made{}
	m.fill(r, nil)
	m.bare = append(m.bare, m.tokens)
	m.in = append(m.in, nil)
	return m
}

func TestGroupsAsMade(t *testing.T) {
	r := rand.New(rand.NewSource(2))
	for range 1000 {
		m := someText(r)
		got, e, at := cond.Groups(scan(t, m.text))
		if e != api.OK || at != 0 || len(got)+len(m.groups) > 0 && !reflect.DeepEqual(got, m.groups) {
			t.Fatalf("Groups(%q) = %v, %d, %d; want %v", m.text, got, e, at, m.groups)
		}
	}
}

// TestGroupsOfAnyLines holds the error's place against the sentences of the document, for lines in any order.
func TestGroupsOfAnyLines(t *testing.T) {
	kinds := []string{"if", "elif", "else", "endif", "define"}
	for number := range 5 * 5 * 5 * 5 * 5 * 5 {
		var l []api.Token
		for n := number; n > 0; n /= 5 {
			l = append(l, line("#"+kinds[n%5]))
		}
		want, wantAt := plainError(l)
		got, e, at := cond.Groups(l)
		if e != want || at != wantAt || e != api.OK && len(got) > 0 {
			t.Fatalf("Groups(%v) = %v, %d, %d; want %d, %d", l, got, e, at, want, wantAt)
		}
	}
}

// plainError looks for the innermost open group of each directive by taking whole groups away.
func plainError(l []api.Token) (api.Errno, int) {
	around := ""
	var places []int
	for i, x := range l {
		switch x.Text {
		case "#if":
			around += "i"
			places = append(places, i)
		case "#elif":
			if !strings.HasSuffix(around, "i") {
				return api.ErrCond, i
			}
		case "#else":
			if !strings.HasSuffix(around, "i") {
				return api.ErrCond, i
			}
			around = strings.TrimSuffix(around, "i") + "e"
		case "#endif":
			if around == "" {
				return api.ErrCond, i
			}
			around = around[:len(around)-1]
			places = places[:len(places)-1]
		}
	}
	if around != "" {
		return api.ErrCond, places[len(places)-1]
	}
	return api.OK, 0
}

func TestArgumentsStay(t *testing.T) {
	l := scan(t, "#if A\nx\n#elif 0\n#ifdef B\n#endif\n#endif\n")
	kept := slices.Clone(l)
	choice := []int{1, 1}
	defs := []api.Pair{{Name: "A", Value: "1"}, {Name: "B", Value: "x"}, {Name: "A", Value: "0"}}
	before := fmt.Sprint(choice, defs)
	groups, _, _ := cond.Groups(l)
	first := fmt.Sprint(groups)
	groups[0].Lines[0] = 99
	cond.View(l, choice)
	cond.First(l)
	cond.Of(l, 3)
	cond.Choose(l, defs)
	cond.Names(l)
	cond.Dead(l)
	again, _, _ := cond.Groups(l)
	if !slices.Equal(l, kept) || before != fmt.Sprint(choice, defs) || first != fmt.Sprint(again) {
		t.Errorf("arguments were changed")
	}
}
