package cond_test

import (
	"math/rand"
	"slices"
	"strconv"
	"strings"
	"testing"

	"smocking/api"
	"smocking/cond"
	"smocking/lex"
)

func TestChoose(t *testing.T) {
	for _, c := range []struct {
		text string
		want []int
	}{
		{"", nil}, {"a", nil},
		{"#if A\n#endif", []int{0}}, {"#if NONE\n#endif", []int{1}}, {"#if B\n#else\n#endif", []int{0}},
		{"#if NONE\n#else\n#endif", []int{1}}, {"#if 0\n#elif A\n#elif B\n#endif", []int{1}}, {"#if A\n#elif A\n#endif", []int{0}},
		{"#if 0\n#elif 0\n#elif B\n#else\n#endif", []int{2}}, {"#if 0\n#elif 0\n#endif", []int{2}}, {"#if 0\n#elif 0\n#else\n#endif", []int{2}},
		{"#ifdef A\n#endif", []int{0}}, {"#ifdef NONE\n#endif", []int{1}}, {"#ifdef TEXT\n#endif", []int{0}}, {"#ifdef A + 1\n#endif", []int{0}},
		{"#ifndef A\n#endif", []int{1}}, {"#ifndef NONE\n#endif", []int{0}}, {"#ifndef A B\n#elif A\n#endif", []int{1}},
		{"#ifdef\n#endif", []int{1}}, {"#ifndef\n#endif", []int{0}}, {"#ifdef 1 A\n#endif", []int{1}}, {"#ifndef (A)\n#endif", []int{0}},
		{"#ifdef int\n#endif", []int{1}}, {"#ifndef int\n#endif", []int{0}}, {"#ifdef defined\n#endif", []int{0}}, {"#ifdef \"A\"\n#endif", []int{1}},
		{"#if A B\n#endif", []int{1}}, {"#if\n#endif", []int{1}}, {"#if 1 +\n#elif A -\n#else\n#endif", []int{2}}, {"#if A // B\n#endif", []int{0}},
		{"#if /* 0 */ A /* */\n#endif", []int{0}}, {"#if \\\n A \\\n + B\n#endif", []int{0}}, {"#if 1 # 2\n#endif", []int{1}}, {"#if 1 \\\n# 2\n#endif", []int{1}},
		{"#if EMPTY\n#elif defined EMPTY\n#endif", []int{1}}, {"#if LATER\n#endif", []int{1}}, {"#if(A)\n#endif", []int{0}}, {"#if!A\n#endif", []int{1}},
		{"#define NONE 1\n#undef A\n#if NONE\n#elif A\n#endif", []int{1}}, {"#if defined defined\n#endif", []int{1}},
		{"#if 0\n#if A\n#endif\n#if 0\n#endif\n#elif 1\n#ifdef NONE\n#elif B\n#endif\n#endif", []int{1, 0, 1, 1}},
	} {
		if got, e := cond.Choose(scan(t, c.text), someDefs); e != api.OK || !slices.Equal(got, c.want) {
			t.Errorf("Choose(%q) = %v, %d; want %v", c.text, got, e, c.want)
		}
	}
}

func TestNames(t *testing.T) {
	for _, c := range []struct {
		text string
		want []string
	}{
		{"", nil}, {"#define A B\n#include C\nD", nil}, {"#if 1\n#else\n#endif E", nil}, {"#if 1\n#else F\n#endif", nil},
		{"#if B + A * B\n#elif C\n#endif", []string{"A", "B", "C"}},
		{"#ifdef A B\n#endif", []string{"A"}}, {"#ifndef B\n#elif A\n#endif", []string{"A", "B"}}, {"#ifdef 1 A\n#endif", nil}, {"#ifndef\n#endif", nil},
		{"#if defined A && defined(B)\n#endif", []string{"A", "B"}}, {"#if defined\n#endif", nil}, {"#if defined defined\n#endif", nil},
		{"#ifdef defined\n#endif", []string{"defined"}}, {"#if A( + B C int 1x \"D\" 'E' // F\n#endif", []string{"A", "B", "C"}},
		{"#if 0\n#if b\n#elif Z\n#endif\n#elif _\n#endif", []string{"Z", "_", "b"}}, {"#if \\\n#A\n#endif", []string{"A"}},
	} {
		if got, e := cond.Names(scan(t, c.text)); e != api.OK || !slices.Equal(got, c.want) {
			t.Errorf("Names(%q) = %q, %d; want %q", c.text, got, e, c.want)
		}
	}
}

func TestDead(t *testing.T) {
	for _, c := range []struct {
		text string
		want [][2]int
	}{
		{"", nil}, {"#if A\n#endif", nil}, {"#if A\n#elif B\n#else\n#endif", nil},
		{"#if 0\nx\n#endif", [][2]int{{0, 0}}}, {"#if 1\n#endif", [][2]int{{0, 1}}}, {"#if -1\n#else\n#endif", [][2]int{{0, 1}}},
		{"#if A\n#elif 0\n#elif B\n#endif", [][2]int{{0, 1}}}, {"#if A\n#elif 1\n#elif B\n#elif 1\n#else\n#endif", [][2]int{{0, 2}, {0, 3}, {0, 4}}},
		{"#if 0\n#elif 0\n#elif 2\n#endif", [][2]int{{0, 0}, {0, 1}, {0, 3}}}, {"#if 1\n#elif 0\n#endif", [][2]int{{0, 1}, {0, 2}}},
		{"#if 0 && A\n#endif", nil}, {"#if 1 || A\n#endif", nil}, {"#if A +\n#endif", nil}, {"#if A B\n#endif", nil},
		{"#if 1 +\n#endif", [][2]int{{0, 0}}}, {"#if\n#endif", [][2]int{{0, 0}}}, {"#if int\n#endif", [][2]int{{0, 0}}},
		{"#if defined\n#endif", [][2]int{{0, 0}}}, {"#if !defined\n#endif", [][2]int{{0, 0}}}, {"#if defined defined\n#endif", [][2]int{{0, 0}}},
		{"#ifdef\n#endif", [][2]int{{0, 0}}}, {"#ifndef\n#endif", [][2]int{{0, 1}}}, {"#ifdef 1\n#else\n#endif", [][2]int{{0, 0}}},
		{"#ifdef A\n#endif", nil}, {"#ifndef A\n#endif", nil}, {"#ifdef defined\n#endif", nil}, {"#ifndef 1 A\n#elif B\n#endif", [][2]int{{0, 1}, {0, 2}}},
		{"#if 0\n#if A\n#endif\n#if 0\n#endif\n#endif\n#if 1\n#endif", [][2]int{{0, 0}, {2, 0}, {3, 1}}},
	} {
		if got, e := cond.Dead(scan(t, c.text)); e != api.OK || !slices.Equal(got, c.want) {
			t.Errorf("Dead(%q) = %v, %d; want %v", c.text, got, e, c.want)
		}
	}
}

func TestErrorsOfGroups(t *testing.T) {
	for text, want := range map[string]api.Errno{
		"#if 0": api.ErrCond, "#if 0\n#endif\n#else": api.ErrCond, strings.Repeat("#if 0\n", api.MaxGroups+1): api.ErrLimit,
	} {
		l := scan(t, text)
		if got, e := cond.Choose(l, nil); len(got) > 0 || e != want {
			t.Errorf("Choose(%.40q) = %v, %d", text, got, e)
		}
		if got, e := cond.Names(l); len(got) > 0 || e != want {
			t.Errorf("Names(%.40q) = %v, %d", text, got, e)
		}
		if got, e := cond.Dead(l); len(got) > 0 || e != want {
			t.Errorf("Dead(%.40q) = %v, %d", text, got, e)
		}
	}
}

// someValues makes definitions.
func someValues(r *rand.Rand) []api.Pair {
	var defs []api.Pair
	for range r.Intn(6) {
		name := []string{"A", "B", "C", "D", "defined", "int", "E"}[r.Intn(7)]
		defs = append(defs, api.Pair{Name: name, Value: strconv.Itoa(r.Intn(5) - 2)})
	}
	return defs
}

// plainCondition tells the value of a line of a made text by Eval, or by its first word.
func plainCondition(line string, defs []api.Pair) int {
	kind, rest, _ := strings.Cut(strings.TrimLeft(line, "# "), " ")
	if kind == "if" || kind == "elif" {
		n, _ := cond.Eval(rest, defs)
		return n
	}
	words, _ := lex.Scan(rest)
	first := words[0]
	known := slices.ContainsFunc(defs, func(d api.Pair) bool { return d.Name == first.Text })
	if (known && first.Kind == api.KName) == (kind == "ifdef") {
		return 1
	}
	return 0
}

// TestChooseAsMade holds choices against Eval, and asks what names and dead branches promise of them (P3.6).
func TestChooseAsMade(t *testing.T) {
	r := rand.New(rand.NewSource(7))
	for range 250 {
		m := someText(r)
		l := scan(t, m.text)
		names, _ := cond.Names(l)
		dead, _ := cond.Dead(l)
		for range 10 {
			defs := someValues(r)
			choice, e := cond.Choose(l, defs)
			if e != api.OK || len(choice) != len(m.groups) {
				t.Fatalf("Choose(%q) = %v, %d", m.text, choice, e)
			}
			for i, g := range m.groups {
				want := 0
				for want < g.Branches-1 && plainCondition(l[g.Lines[want]].Text, defs) == 0 {
					want++
				}
				if choice[i] != want {
					t.Fatalf("Choose(%q, %v) = %v; want %d for %d", m.text, defs, choice, want, i)
				}
				if slices.Contains(dead, [2]int{i, choice[i]}) {
					t.Fatalf("Choose(%q, %v) = %v takes a dead branch of %v", m.text, defs, choice, dead)
				}
			}
			same := slices.DeleteFunc(slices.Clone(defs), func(d api.Pair) bool { return !slices.Contains(names, d.Name) })
			more := append(same, api.Pair{Name: "other", Value: "1"})
			if again, _ := cond.Choose(l, more); !slices.Equal(again, choice) {
				t.Fatalf("Choose(%q, %v) = %v; with %v %v", m.text, more, again, defs, choice)
			}
		}
	}
}
