package lex_test

import (
	"slices"
	"strings"
	"testing"

	"smocking/api"
	"smocking/lex"
)

func TestKeys(t *testing.T) {
	want := strings.Fields("break case char const continue default do else enum extern for goto if int long return short signed sizeof static struct switch typedef union unsigned void volatile while")
	got := lex.Keys()
	if !slices.Equal(got, want) {
		t.Errorf("Keys = %q", got)
	}
	clear(got)
	_ = append(got[:0], "x")
	if again := lex.Keys(); !slices.Equal(again, want) {
		t.Errorf("Keys, after a change of what it returned = %q", again)
	}
	for _, key := range want {
		if l := scan(t, key); len(l) != 2 || l[0].Kind != api.KKey || lex.IsName(key) || !lex.IsName(key+"_") || !lex.IsName(strings.ToUpper(key)) {
			t.Errorf("the key %s is taken as %q", key, told(l, false))
		}
	}
}

func TestSigns(t *testing.T) {
	want := strings.Fields("... <<= >>= << >> <= >= == != && || ++ -- += -= *= /= %= &= |= ^= -> + - * / % & | ^ ! ~ < > = ? : ; , . ( ) [ ] { } #")
	got := lex.Signs()
	if !slices.Equal(got, want) {
		t.Errorf("Signs = %q", got)
	}
	clear(got)
	if again := lex.Signs(); !slices.Equal(again, want) {
		t.Errorf("Signs, after a change of what it returned = %q", again)
	}
	for _, sign := range want {
		if l := scan(t, "\v"+sign); len(l) != 2 || l[0].Kind != api.KSign || l[0].Text != sign {
			t.Errorf("the sign %s is taken as %q", sign, told(l, false))
		}
	}
}

func TestIsName(t *testing.T) {
	for _, s := range []string{"a", "z", "A", "Z", "_", "__", "a0", "Z9_a", "If", "ifs", "_if", "defined", strings.Repeat("a", api.MaxText+1)} {
		if !lex.IsName(s) {
			t.Errorf("IsName(%.20q) = false", s)
		}
	}
	for _, s := range []string{"", " ", " a", "a ", "a b", "0", "0a", "9", "if", "while", "a-b", "a.b", "a\n", "\xc3\xa9", "a\xc3\xa9", "@", "`", "[", "{", "a/**/", "\"a\"", "$a", "a:", "a/"} {
		if lex.IsName(s) {
			t.Errorf("IsName(%q) = true", s)
		}
	}
}
