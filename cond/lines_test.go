package cond_test

import (
	"math/rand"
	"slices"
	"strconv"
	"strings"
	"testing"

	"smocking/api"
	"smocking/cond"
	"smocking/lex"
)

// scan returns the tokens of a text that has some.
func scan(t *testing.T, s string) []api.Token {
	t.Helper()
	l, e := lex.Scan(s)
	if e != api.OK {
		t.Fatalf("Scan(%q): %d", s, e)
	}
	return l
}

func line(s string) api.Token {
	return api.Token{Kind: api.KLine, Text: s}
}

func TestKind(t *testing.T) {
	for _, c := range []struct{ line, want string }{
		{"#if A", "if"}, {"#ifdef A", "ifdef"}, {"#ifndef A", "ifndef"}, {"#elif A", "elif"}, {"#else", "else"},
		{"#endif", "endif"}, {"#define A", "define"}, {"#undef A", "undef"}, {"#include <a.h>", "include"},
		{"#if", "if"}, {"#if(A)", "if"}, {"#if!A", "if"}, {"#else A", "else"}, {"#endif // A", "endif"},
		{"# \t/* x */ if A", "if"}, {"#\\\n if A", "if"}, {"#/* a \\\n b */endif", "endif"},
		{"#", "other"}, {"# ", "other"}, {"# // if", "other"}, {"#/* if", "other"}, {"#pragma once", "other"},
		{"#error if", "other"}, {"#IF A", "other"}, {"#iff", "other"}, {"#1 if", "other"}, {"#\"if\"", "other"},
		{"##if A", "other"}, {"# #if A", "other"}, {"#\\\n#if A", "other"}, {"#i\\\nf A", "other"}, {"#@if", "other"},
		{"", "other"}, {"if A", "other"}, {" #if A", "other"},
		{"#if" + strings.Repeat(" ", api.MaxText), "other"},
	} {
		if got := cond.Kind(line(c.line)); got != c.want {
			t.Errorf("Kind(%.40q) = %q; want %q", c.line, got, c.want)
		}
	}
}

func TestKindOfOtherTokens(t *testing.T) {
	for kind := -1; kind < 10; kind++ {
		token := api.Token{Kind: kind, Text: "#if A"}
		if got := cond.Kind(token); kind != api.KLine && got != "" {
			t.Errorf("Kind of kind %d = %q", kind, got)
		}
	}
}

// wordsOf writes each word with its kind and its place.
func wordsOf(l []api.Token) []string {
	var all []string
	for _, w := range l {
		all = append(all, strconv.Itoa(w.Kind)+" "+strconv.Itoa(w.At)+" "+w.Text)
	}
	return all
}

func TestWords(t *testing.T) {
	for _, c := range []struct {
		line string
		want []string
	}{
		{"#", nil},
		{"# /* a */ // b", nil},
		{"#/*", nil},
		{"#if A", []string{"2 0 if", "1 3 A"}},
		{"# define  F(a) \"b\" 'c' 1.5", []string{"1 1 define", "1 9 F", "6 10 (", "1 11 a", "6 12 )", "5 14 \"b\"", "4 18 'c'", "3 22 1.5"}},
		{"#else/* a */b//c", []string{"2 0 else", "1 11 b"}},
		{"##", []string{"6 0 #"}},
		{"##if A", []string{"6 0 #", "2 1 if", "1 4 A"}},
		{"# # if", []string{"6 1 #", "2 3 if"}},
		{"#a \\\n # b \\\r\n#c", []string{"1 0 a", "6 5 #", "1 7 b", "6 12 #", "1 13 c"}},
		{"#/* \\\n */ # a ## b", []string{"6 9 #", "1 11 a", "6 13 #", "6 14 #", "1 16 b"}},
		{"#'#' \"#\" /* # */ '#", []string{"4 0 '#'", "5 4 \"#\"", "8 16 '", "6 17 #"}},
		{"#@ # $", []string{"8 0 @", "6 2 #", "8 4 $"}},
		{"#a\n#b\n c", []string{"1 0 a", "6 2 #", "1 3 b", "1 6 c"}},
	} {
		l, e := cond.Words(line(c.line))
		if e != api.OK || !slices.Equal(wordsOf(l), c.want) {
			t.Errorf("Words(%q) = %q, %d; want %q", c.line, wordsOf(l), e, c.want)
		}
	}
}

func TestWordsKeepWhatStandsBefore(t *testing.T) {
	l, _ := cond.Words(line("# if/* # */A \\\n# // #\n B"))
	var before []string
	for _, w := range l {
		before = append(before, w.Before)
	}
	if !slices.Equal(before, []string{" ", "/* # */", " \\\n", " // #\n "}) {
		t.Errorf("before: %q", before)
	}
}

func TestWordsErrors(t *testing.T) {
	for _, x := range []api.Token{
		{}, {Kind: api.KLine}, {Kind: api.KLine, Text: "if A"}, {Kind: api.KLine, Text: " #if A"},
		{Kind: api.KSign, Text: "#"}, {Kind: api.KName, Text: "#if"}, {Kind: api.KOdd, Text: "#"}, {Kind: api.KEnd, Text: "#"},
	} {
		if l, e := cond.Words(x); len(l) > 0 || e != api.ErrForm {
			t.Errorf("Words(%v) = %v, %d", x, l, e)
		}
	}
}

func TestWordsLimits(t *testing.T) {
	for _, c := range []struct {
		text string
		want api.Errno
	}{
		{strings.Repeat(";", api.MaxTokens-1), api.OK},
		{strings.Repeat(";", api.MaxTokens), api.ErrLimit},
		{strings.Repeat("#", api.MaxTokens-1), api.OK},
		{strings.Repeat("a", api.MaxText), api.OK},
		{strings.Repeat("a", api.MaxText+1), api.ErrLimit},
	} {
		if l, e := cond.Words(line("#" + c.text)); e != c.want || (len(l) > 0) != (e == api.OK) {
			t.Errorf("Words of %d bytes: %d words, %d; want %d", len(c.text), len(l), e, c.want)
		}
	}
}

// TestWordsAreTokens holds Words against Scan in texts that begin with a word, where a # cannot begin a line.
func TestWordsAreTokens(t *testing.T) {
	r := rand.New(rand.NewSource(1))
	pieces := []string{"if", "A", "#", "##", "1.5", "'", "\"", "\\", " ", "/*", "*/", "//", "&&", "(", "@", "\t", "é"}
	for range 5000 {
		text := ""
		for range r.Intn(12) {
			text += pieces[r.Intn(len(pieces))]
		}
		l := scan(t, ";"+text)
		want := l[1 : len(l)-1]
		for i := range want {
			want[i].At--
		}
		if got, e := cond.Words(line("#" + text)); e != api.OK || !slices.Equal(got, want) {
			t.Fatalf("Words(%q) = %v, %d; want %v", "#"+text, got, e, want)
		}
	}
}
