package text_test

import (
	"slices"
	"strings"
	"testing"

	"smocking/api"
	"smocking/text"
)

func TestLinesAreCutBehindLineFeeds(t *testing.T) {
	for _, c := range []struct {
		s    string
		want []string
	}{
		{"", nil},
		{"a", []string{"a"}},
		{"\n", []string{"\n"}},
		{"\n\n", []string{"\n", "\n"}},
		{"a\nb", []string{"a\n", "b"}},
		{"a\n\nb\n", []string{"a\n", "\n", "b\n"}},
		{"a\r\nb\rc\x00\n", []string{"a\r\n", "b\rc\x00\n"}},
		{"\xff\n\xfe", []string{"\xff\n", "\xfe"}},
	} {
		got := text.Lines(c.s)
		if !slices.Equal(got, c.want) {
			t.Errorf("Lines(%q) = %q; want %q", c.s, got, c.want)
		}
		if strings.Join(got, "") != c.s {
			t.Errorf("Lines(%q) = %q: they are not the text", c.s, got)
		}
	}
}

func TestLinesAreNewMemory(t *testing.T) {
	text.Lines("a\nb\n")[0] = "x"
	if got := text.Lines("a\nb\n"); got[0] != "a\n" {
		t.Errorf("Lines = %q behind a change of an earlier result", got)
	}
}

func TestPlaceOfEachByte(t *testing.T) {
	for _, s := range []string{"", "a", "\n", "ab\ncd", "ab\n\ncd\n", "\r\n\xff"} {
		line, column := 1, 0
		for at := 0; at <= len(s); at++ {
			gotLine, gotColumn, e := text.Place(s, at)
			if gotLine != line || gotColumn != column || e != api.OK {
				t.Errorf("Place(%q, %d) = %d, %d, %d; want %d, %d", s, at, gotLine, gotColumn, e, line, column)
			}
			column++
			if at < len(s) && s[at] == '\n' {
				line, column = line+1, 0
			}
		}
	}
}

func TestPlaceBeyondTheText(t *testing.T) {
	const most = int(^uint(0) >> 1)
	for _, at := range []int{-1, 4, most, -most - 1} {
		if line, column, e := text.Place("a\nb", at); line != 0 || column != 0 || e != api.ErrRange {
			t.Errorf("Place at %d = %d, %d, %d; want 0, 0, ErrRange", at, line, column, e)
		}
	}
}
