package text_test

import (
	"strings"
	"testing"

	"smocking/api"
	"smocking/text"
)

// TestPatchOfDifferencesThatDiffDoesNotMake has texts that are as a difference's text, all the same.
func TestPatchOfDifferencesThatDiffDoesNotMake(t *testing.T) {
	for _, c := range []struct{ name, s, diff, want, reverse string }{
		{"no hunks", "a\n", "", "a\n", ""},
		{"hunks side by side", "a\nb\n", "@@ 1,1 1,1 @@\n-a\n+x\n@@ 2,1 2,1 @@\n-b\n+y\n", "x\ny\n",
			"@@ 1,1 1,1 @@\n-x\n+a\n@@ 2,1 2,1 @@\n-y\n+b\n"},
		{"side by side, without lines of a", "a\n", "@@ 0,0 1,1 @@\n+x\n@@ 1,1 2,1 @@\n-a\n+y\n", "x\ny\n",
			"@@ 1,1 0,0 @@\n-x\n@@ 2,1 1,1 @@\n-y\n+a\n"},
		{"two hunks at one place", "a\n", "@@ 1,0 2,1 @@\n+x\n@@ 1,0 3,1 @@\n+y\n", "a\nx\ny\n",
			"@@ 2,1 1,0 @@\n-x\n@@ 3,1 1,0 @@\n-y\n"},
		{"side by side, without lines of b", "a\nb\n", "@@ 1,1 0,0 @@\n-a\n@@ 2,1 0,0 @@\n-b\n", "",
			"@@ 0,0 1,1 @@\n+a\n@@ 0,0 2,1 @@\n+b\n"},
		{"more context on one side", "a\nb\nc\nd\n", "@@ 1,4 1,4 @@\n a\n b\n-c\n+x\n d\n", "a\nb\nx\nd\n",
			"@@ 1,4 1,4 @@\n a\n b\n-x\n+c\n d\n"},
		{"runs that keep nothing", "a\n", "@@ 1,1 1,1 @@\n-a\n+a\n", "a\n", "@@ 1,1 1,1 @@\n-a\n+a\n"},
		{"runs with two lines each", "a\nb\nc\n", "@@ 1,3 1,3 @@\n-a\n-b\n+x\n+y\n c\n", "x\ny\nc\n",
			"@@ 1,3 1,3 @@\n-x\n-y\n+a\n+b\n c\n"},
		{"a last line of one side, then the other side's", "a", "@@ 1,1 1,2 @@\n-a\n\\ no end\n+a\n+b\n", "a\nb\n",
			"@@ 1,2 1,1 @@\n-a\n-b\n+a\n\\ no end\n"},
		{"a's last line goes, b's come in a further hunk", "a", "@@ 1,1 0,0 @@\n-a\n\\ no end\n@@ 1,0 1,1 @@\n+b\n", "b\n",
			"@@ 0,0 1,1 @@\n+a\n\\ no end\n@@ 1,1 1,0 @@\n-b\n"},
		{"empty lines", "\n", "@@ 1,1 1,2 @@\n-\n+x\n+\n", "x\n\n", "@@ 1,2 1,1 @@\n-x\n-\n+\n"},
		{"lines that look like parts of a difference", "@@ 1,1 1,1 @@\n", "@@ 1,1 1,1 @@\n-@@ 1,1 1,1 @@\n+\\ no end\n", "\\ no end\n",
			"@@ 1,1 1,1 @@\n-\\ no end\n+@@ 1,1 1,1 @@\n"},
		{"a byte 13", "a\r\n", "@@ 1,1 1,1 @@\n-a\r\n+b\r\n", "b\r\n", "@@ 1,1 1,1 @@\n-b\r\n+a\r\n"},
	} {
		if got, e := text.Patch(c.s, c.diff); got != c.want || e != api.OK {
			t.Errorf("%s: Patch = %q, %d; want %q", c.name, got, e, c.want)
		}
		if got, e := text.Reverse(c.diff); got != c.reverse || e != api.OK {
			t.Errorf("%s: Reverse = %q, %d; want %q", c.name, got, e, c.reverse)
		}
		if got, e := text.Patch(c.want, c.reverse); got != c.s || e != api.OK {
			t.Errorf("%s: Patch of Reverse = %q, %d; want %q", c.name, got, e, c.s)
		}
	}
}

func TestTextsThatAreNoDifference(t *testing.T) {
	for name, d := range map[string]string{
		"no head":                           "-a\n",
		"an empty line":                     "\n",
		"an empty line behind a hunk":       "@@ 1,1 0,0 @@\n-a\n\n",
		"no line feed at the end":           "@@ 1,1 0,0 @@\n-a",
		"no line feed behind no end":        "@@ 1,1 0,0 @@\n-a\n\\ no end",
		"no line feed behind a head":        "@@ 1,1 0,0 @@",
		"no lines":                          "@@ 1,0 1,0 @@\n",
		"only kept lines":                   "@@ 1,1 1,1 @@\n a\n",
		"too few lines":                     "@@ 1,2 0,0 @@\n-a\n",
		"a head before all lines are told":  "@@ 1,2 0,0 @@\n-a\n@@ 2,1 0,0 @@\n-a\n",
		"too many lines of a":               "@@ 1,1 0,0 @@\n-a\n-a\n",
		"too many lines of b":               "@@ 0,0 1,1 @@\n+a\n+a\n",
		"a gone line that a's side has not": "@@ 0,0 1,1 @@\n-a\n+b\n",
		"a come line that b's side has not": "@@ 1,1 0,0 @@\n+b\n-a\n",
		"a kept line for a's side alone":    "@@ 1,2 0,0 @@\n-a\n b\n",
		"a kept line for b's side alone":    "@@ 0,0 1,2 @@\n+a\n b\n",
		"a come line ahead of a gone one":   "@@ 1,1 1,1 @@\n+a\n-b\n",
		"it is so in a later run":           "@@ 1,3 1,3 @@\n-a\n+a\n b\n+c\n-c\n",
		"another mark":                      "@@ 1,2 1,1 @@\n-a\n*b\n",
		"an empty line in a hunk":           "@@ 1,2 1,1 @@\n-a\n\n",
		"no blank behind the signs":         "@@1,1 0,0 @@\n-a\n",
		"no blank ahead of the signs":       "@@ 1,1 0,0@@\n-a\n",
		"two blanks":                        "@@ 1,1  0,0 @@\n-a\n",
		"a blank more at the end":           "@@ 1,1 0,0 @@ \n-a\n",
		"the byte 13 in a head":             "@@ 1,1 0,0 @@\r\n-a\r\n",
		"one side":                          "@@ 1,1 @@\n-a\n",
		"three sides":                       "@@ 1,1 0,0 0,0 @@\n-a\n",
		"no sides":                          "@@ @@\n-a\n",
		"a side with one number":            "@@ 1 0,0 @@\n-a\n",
		"a side with three numbers":         "@@ 1,1,1 0,0 @@\n-a\n",
		"no number":                         "@@ ,1 0,0 @@\n-a\n",
		"a zero ahead of a number":          "@@ 01,1 0,0 @@\n-a\n",
		"zeros":                             "@@ 1,1 00,0 @@\n-a\n",
		"a zero ahead of a size":            "@@ 1,1 0,00 @@\n-a\n",
		"a plus sign":                       "@@ +1,1 0,0 @@\n-a\n",
		"a minus sign":                      "@@ 1,1 -0,0 @@\n-a\n",
		"a negative size":                   "@@ 1,1 0,-1 @@\n-a\n",
		"another base":                      "@@ 0x1,1 0,0 @@\n-a\n",
		"the byte behind the digit 9":       "@@ :,1 :,1 @@\n-a\n+b\n",
		"the byte ahead of the digit 0":     "@@ 1/,1 1/,1 @@\n-a\n+b\n",
		"ten digits":                        "@@ 1000000000,1 999999999,0 @@\n-a\n",
		"far more digits":                   "@@ 18446744073709551617,1 0,0 @@\n-a\n",
		"a size of ten digits":              "@@ 1,1000000000 0,0 @@\n-a\n",
		"a size beyond the lines":           "@@ 1,999999999 0,0 @@\n-a\n",
		"a's first line is 0":               "@@ 0,1 0,0 @@\n-a\n",
		"b's first line is 0":               "@@ 0,0 0,1 @@\n+a\n",
		"both first lines are 0":            "@@ 0,1 0,1 @@\n-a\n+b\n",
		"b's line is too great":             "@@ 1,1 2,1 @@\n-a\n+b\n",
		"b's line is too small":             "@@ 2,1 1,1 @@\n-a\n+b\n",
		"b's line without lines":            "@@ 1,1 1,0 @@\n-a\n",
		"a's line without lines":            "@@ 1,0 1,1 @@\n+a\n",
		"b's line in the second hunk":       "@@ 1,1 0,0 @@\n-a\n@@ 3,1 3,1 @@\n-a\n+b\n",
		"hunks in no order":                 "@@ 3,1 3,1 @@\n-a\n+b\n@@ 1,1 1,1 @@\n-a\n+b\n",
		"hunks that overlap":                "@@ 1,2 1,2 @@\n-a\n+b\n c\n@@ 2,2 2,2 @@\n c\n-d\n+e\n",
		"an insertion within a hunk":        "@@ 1,2 1,2 @@\n-a\n+b\n c\n@@ 1,0 2,1 @@\n+x\n",
		"no end behind a head":              "@@ 1,1 0,0 @@\n\\ no end\n-a\n",
		"no end at the beginning":           "\\ no end\n@@ 1,1 0,0 @@\n-a\n",
		"no end twice":                      "@@ 1,1 0,0 @@\n-a\n\\ no end\n\\ no end\n",
		"no end with a blank":               "@@ 1,1 0,0 @@\n-a\n\\ no end \n",
		"no end, otherwise written":         "@@ 1,1 0,0 @@\n-a\n\\ No newline at end of file\n",
		"no end of an empty gone line":      "@@ 1,1 0,0 @@\n-\n\\ no end\n",
		"no end of an empty come line":      "@@ 0,0 1,1 @@\n+\n\\ no end\n",
		"no end of an empty kept line":      "@@ 1,2 1,1 @@\n-a\n \n\\ no end\n",
		"a gone line behind a's end":        "@@ 1,2 0,0 @@\n-a\n\\ no end\n-b\n",
		"a come line behind b's end":        "@@ 0,0 1,2 @@\n+a\n\\ no end\n+b\n",
		"a kept line behind a's end":        "@@ 1,2 1,1 @@\n-a\n\\ no end\n b\n",
		"a kept line behind b's end":        "@@ 1,1 1,2 @@\n+a\n\\ no end\n b\n",
		"a gone line behind both ends":      "@@ 1,2 1,1 @@\n a\n\\ no end\n-b\n",
		"a come line behind both ends":      "@@ 1,1 1,2 @@\n a\n\\ no end\n+b\n",
		"a later hunk behind a's end":       "@@ 1,1 0,0 @@\n-a\n\\ no end\n@@ 2,1 0,0 @@\n-b\n",
		"a later hunk behind b's end":       "@@ 0,0 1,1 @@\n+a\n\\ no end\n@@ 0,0 2,1 @@\n+b\n",
	} {
		if s, e := text.Patch("a\n", d); s != "" || e != api.ErrForm {
			t.Errorf("%s: Patch = %q, %d; want ErrForm", name, s, e)
		}
		if s, e := text.Reverse(d); s != "" || e != api.ErrForm {
			t.Errorf("%s: Reverse = %q, %d; want ErrForm", name, s, e)
		}
	}
}

func TestDifferencesThatDoNotFit(t *testing.T) {
	for _, c := range []struct{ name, s, diff string }{
		{"another gone line", "b\n", "@@ 1,1 1,1 @@\n-a\n+b\n"},
		{"another kept line", "a\nc\n", "@@ 1,2 1,2 @@\n-a\n+x\n b\n"},
		{"the line is elsewhere", "a\nb\n", "@@ 1,1 1,1 @@\n-b\n+x\n"},
		{"the gone line has no line feed", "a", "@@ 1,1 0,0 @@\n-a\n"},
		{"the gone line has a line feed", "a\n", "@@ 1,1 0,0 @@\n-a\n\\ no end\n"},
		{"the kept line has no line feed", "a\nb", "@@ 1,2 1,1 @@\n-a\n b\n"},
		{"the kept line has a line feed", "a\nb\n", "@@ 1,2 1,1 @@\n-a\n b\n\\ no end\n"},
		{"the gone line is behind the end", "a\n", "@@ 2,1 1,0 @@\n-b\n"},
		{"the gone line is far behind the end", "a\n", "@@ 999999999,1 999999998,0 @@\n-b\n"},
		{"the kept line is behind the end", "a\n", "@@ 1,2 1,1 @@\n-a\n b\n"},
		{"the line before is not there", "a\n", "@@ 2,0 3,1 @@\n+b\n"},
		{"the line before is not there in an empty text", "", "@@ 1,0 2,1 @@\n+b\n"},
		{"a later hunk does not fit", "a\nb\nc\n", "@@ 1,1 1,1 @@\n-a\n+x\n@@ 3,1 3,1 @@\n-d\n+y\n"},
		{"a line comes behind one without a line feed", "a", "@@ 1,0 2,1 @@\n+b\n"},
		{"a line without a line feed comes before another one", "a\n", "@@ 0,0 1,1 @@\n+b\n\\ no end\n"},
		{"it takes a line's place", "a\nc\n", "@@ 1,1 1,1 @@\n-a\n+b\n\\ no end\n"},
		{"a line is kept between a's end and a later hunk", "a\nb\n", "@@ 1,1 1,1 @@\n-a\n+x\n\\ no end\n@@ 3,1 2,0 @@\n-c\n"},
	} {
		if s, e := text.Patch(c.s, c.diff); s != "" || e != api.ErrApply {
			t.Errorf("%s: Patch(%q, %q) = %q, %d; want ErrApply", c.name, c.s, c.diff, s, e)
		}
		if _, e := text.Reverse(c.diff); e != api.OK {
			t.Errorf("%s: Reverse(%q) = %d", c.name, c.diff, e)
		}
	}
}

func TestLimitsOfPatch(t *testing.T) {
	full := strings.Repeat("a", api.MaxText)
	insert := "@@ 0,0 1,1 @@\n+b\n"
	long := "@@ 0,0 1,1 @@\n+" + full[:api.MaxText-16] + "\n"
	for _, c := range []struct {
		name    string
		s, diff string
		want    api.Errno
	}{
		{"a text of MaxText bytes", full, "", api.OK},
		{"too long a text", full + "a", "", api.ErrLimit},
		{"a difference of MaxText bytes", "", long, api.OK},
		{"too long a difference", "", strings.Replace(long, "+", "+a", 1), api.ErrLimit},
		{"too long a text ahead of no difference", full + "a", "x", api.ErrLimit},
		{"too long a difference ahead of no difference", "", full + "a", api.ErrLimit},
		{"no difference ahead of one that does not fit", "b\n", "@@ 1,1 0,0 @@\n-a\n@@ 1,1 0,0 @@\n-a\n", api.ErrForm},
		{"a result of MaxText bytes", full[2:], insert, api.OK},
		{"too long a result", full[1:], insert, api.ErrLimit},
		{"one that does not fit ahead of too long a result", full[1:], insert + "@@ 1,1 1,0 @@\n-b\n", api.ErrApply},
	} {
		if s, e := text.Patch(c.s, c.diff); e != c.want || (s == "") != (e != api.OK) {
			t.Errorf("%s: Patch = %d bytes, %d; want %d", c.name, len(s), e, c.want)
		}
	}
}

func TestReverseHasNoLimit(t *testing.T) {
	body := strings.Repeat("x", api.MaxText)
	got, e := text.Reverse("@@ 1,1 1,1 @@\n-" + body + "\n+b\n")
	if got != "@@ 1,1 1,1 @@\n-b\n+"+body+"\n" || e != api.OK {
		t.Errorf("Reverse of a long difference = %d bytes, %d", len(got), e)
	}
}

// TestManyLines has more lines than Diff would compare: Patch reads them in one go.
func TestManyLines(t *testing.T) {
	s := strings.Repeat("\n", api.MaxText-1) + "a"
	got, e := text.Patch(s, "@@ 200000,1 200000,1 @@\n-a\n\\ no end\n+b\n\\ no end\n")
	if want := s[:len(s)-1] + "b"; got != want || e != api.OK {
		t.Errorf("Patch = %d bytes, %d", len(got), e)
	}
}

func FuzzPatchAndReverse(f *testing.F) {
	f.Add("a\n", "@@ 1,1 1,1 @@\n-a\n+b\n")
	f.Add("a", "@@ 1,1 1,2 @@\n-a\n\\ no end\n+a\n+b\n")
	f.Fuzz(func(t *testing.T, s, d string) {
		got, e := text.Patch(s, d)
		r, re := text.Reverse(d)
		if (e == api.ErrForm) != (re == api.ErrForm) && len(d) <= api.MaxText && len(s) <= api.MaxText {
			t.Fatalf("Patch %d, Reverse %d", e, re)
		}
		if re == api.OK {
			if again, e := text.Reverse(r); again != d || e != api.OK {
				t.Fatalf("Reverse twice of %q = %q, %d", d, again, e)
			}
		}
		if e == api.OK && len(r) <= api.MaxText {
			if back, e := text.Patch(got, r); back != s || e != api.OK {
				t.Fatalf("Patch(%q, %q) = %q, %d; want %q", got, r, back, e, s)
			}
		}
	})
}
