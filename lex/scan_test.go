package lex_test

import (
	"math/rand"
	"regexp"
	"slices"
	"strings"
	"testing"

	"smocking/api"
	"smocking/lex"
)

// scan returns the tokens of a text that has some.
func scan(t *testing.T, s string) []api.Token {
	t.Helper()
	l, e := lex.Scan(s)
	if e != api.OK {
		t.Fatalf("Scan(%q): %d", s, e)
	}
	return l
}

var kindNames = []string{"end", "name", "key", "number", "char", "string", "sign", "line", "odd"}

// told writes tokens with their kinds; what stands before them only if it is asked for.
func told(l []api.Token, before bool) []string {
	var all []string
	for _, x := range l {
		s := kindNames[x.Kind] + " " + x.Text
		if before {
			s = x.Before + "~" + s
		}
		all = append(all, s)
	}
	return all
}

var (
	blankForm   = regexp.MustCompile(`^(?:[ \t\n\v\f\r]|\\\r?\n|//[^\n]*|/\*(?s:.*?)(?:\*/|\z))*`)
	commentForm = regexp.MustCompile(`//[^\n]*|/\*(?s:.*?)(?:\*/|\z)`)
	lineForm    = regexp.MustCompile(`^#(?:[^\n]*\\\r?\n)*[^\n]*`)
	tokenForms  = []struct {
		kind int
		form *regexp.Regexp
	}{
		{api.KName, regexp.MustCompile(`^[A-Za-z_][A-Za-z0-9_]*`)},
		{api.KNumber, regexp.MustCompile(`^\.?[0-9](?:[eE][+-]|[A-Za-z0-9_.])*`)},
		{api.KChar, regexp.MustCompile(`^'(?:[^\n\\']|\\[^\n])*'`)},
		{api.KString, regexp.MustCompile(`^"(?:[^\n\\"]|\\[^\n])*"`)},
		{api.KSign, regexp.MustCompile(`^(?:\.\.\.|<<=|>>=|<<|>>|[<>=!]=|&&|\|\||\+\+|--|[-+*/%&|^]=|->|[-+*/%&|^!~<>=?:;,.()\[\]{}#])`)},
	}
	keyForm = regexp.MustCompile(`^(?:break|case|char|const|continue|default|do|else|enum|extern|for|goto|if|int|long|return|short|signed|sizeof|static|struct|switch|typedef|union|unsigned|void|volatile|while)$`)
)

// beginsLine tells from what stands before a # whether it begins a preprocessor line.
func beginsLine(before string, first bool) bool {
	bare := commentForm.ReplaceAllStringFunc(before, func(comment string) string {
		if strings.Contains(comment, "\n") {
			return "\n"
		}
		return " "
	})
	end := strings.LastIndex(bare, "\n")
	return (end >= 0 || first) && strings.Trim(bare[end+1:], " \t") == ""
}

// plainToken is the document's list of tokens, one form behind the other.
func plainToken(rest, before string, first bool) (kind int, text string) {
	if line := lineForm.FindString(rest); line != "" && beginsLine(before, first) {
		if len(line) < len(rest) {
			line = strings.TrimSuffix(line, "\r")
		}
		return api.KLine, line
	}
	for _, c := range tokenForms {
		if text := c.form.FindString(rest); text != "" {
			if keyForm.MatchString(text) {
				return api.KKey, text
			}
			return c.kind, text
		}
	}
	if rest == "" {
		return api.KEnd, ""
	}
	return api.KOdd, rest[:1]
}

// plainScan makes tokens in the plainest way.
func plainScan(s string) []api.Token {
	var l []api.Token
	for at := 0; ; {
		before := blankForm.FindString(s[at:])
		first := at == 0
		at += len(before)
		kind, text := plainToken(s[at:], before, first)
		l = append(l, api.Token{Kind: kind, Before: before, Text: text, At: at})
		at += len(text)
		if kind == api.KEnd {
			return l
		}
	}
}

// parts are what texts are made of in tests: each one matters to some rule of the document.
var parts = []string{"a", "e", "if", "1", ".", "+", "-", "=", "<", ">", "#", "\"", "'", "\\", "\n", "\r", " ", "\t", "\v", "/", "*", "//", "/*", "*/", "\xc3\xa9", "@", "\x00"}

// someTexts returns all texts of up to two parts, and longer ones, the same ones each time.
func someTexts() []string {
	texts := []string{""}
	for _, x := range parts {
		texts = append(texts, x)
		for _, y := range parts {
			texts = append(texts, x+y)
		}
	}
	random := rand.New(rand.NewSource(2))
	for range 30000 {
		var s strings.Builder
		for range 3 + random.Intn(12) {
			s.WriteString(parts[random.Intn(len(parts))])
		}
		texts = append(texts, s.String())
	}
	return texts
}

func TestScanTellsWhatTheDocumentTells(t *testing.T) {
	for _, s := range someTexts() {
		if got, want := scan(t, s), plainScan(s); !slices.Equal(got, want) {
			t.Fatalf("Scan(%q) = %+v; want %+v", s, got, want)
		}
	}
}

func FuzzScan(f *testing.F) {
	f.Add("#if a // b\\\r\nc\r\n/* d */ #e 'f\" \"\\\"g\"")
	f.Fuzz(func(t *testing.T, s string) {
		got, e := lex.Scan(s)
		if want := plainScan(s); e == api.OK && (!slices.Equal(got, want) || lex.Text(got) != s) {
			t.Errorf("Scan(%q) = %+v; want %+v", s, got, want)
		}
	})
}

func TestTextIsAllTokens(t *testing.T) {
	for _, s := range someTexts() {
		if got := lex.Text(scan(t, s)); got != s {
			t.Fatalf("Text of Scan(%q) = %q", s, got)
		}
	}
	if got := lex.Text([]api.Token{{Before: " ", Text: "a", At: 7}, {Kind: 9, Text: "\n"}, {Before: "c"}}); got != " a\nc" {
		t.Errorf("Text of any tokens = %q", got)
	}
	if got := lex.Text(nil); got != "" {
		t.Errorf("Text of none = %q", got)
	}
}

func TestScanExamples(t *testing.T) {
	for _, c := range []struct {
		name, s string
		want    []string
	}{
		{"the empty text", "", []string{"~end "}},
		{"the document's first one", "a /* b */+1", []string{"~name a", " /* b */~sign +", "~number 1", "~end "}},
		{"the document's second one", "\"ab", []string{"~odd \"", "~name ab", "~end "}},
		{"what is left at the end", "a // b", []string{"~name a", " // b~end "}},
		{"all blanks", " \t\n\v\f\ra", []string{" \t\n\v\f\r~name a", "~end "}},
		{"a backslash at a line's end", "a\\\n\\\r\nb", []string{"~name a", "\\\n\\\r\n~name b", "~end "}},
		{"a backslash elsewhere", "\\ \\\r\\", []string{"~odd \\", " ~odd \\", "\r~odd \\", "~end "}},
		{"a comment to the line's end", "//a\\\nb", []string{"//a\\\n~name b", "~end "}},
		{"a comment to the first end", "/*/ a /* b */*/", []string{"/*/ a /* b */~sign *", "~sign /", "~end "}},
		{"a comment without an end", "a/* b * /\n#c", []string{"~name a", "/* b * /\n#c~end "}},
		{"a comment in a comment", "// /*\na", []string{"// /*\n~name a", "~end "}},
		{"a comment's beginning in a string", "\"/*\"a\"//\"", []string{"~string \"/*\"", "~name a", "~string \"//\"", "~end "}},
		{"names and keys", "_a1 If if ifs _ $", []string{"~name _a1", " ~name If", " ~key if", " ~name ifs", " ~name _", " ~odd $", "~end "}},
		{"letters of other languages", "\xc3\xa9a", []string{"~odd \xc3", "~odd \xa9", "~name a", "~end "}},
		{"other bytes", "\x00`\x7f", []string{"~odd \x00", "~odd `", "~odd \x7f", "~end "}},
		{"numbers", "0x1F.5_u 1e+5 1E-x .5", []string{"~number 0x1F.5_u", " ~number 1e+5", " ~number 1E-x", " ~number .5", "~end "}},
		{"signs at numbers", "1+2e+-3 .e+", []string{"~number 1", "~sign +", "~number 2e+", "~sign -", "~number 3", " ~sign .", "~name e", "~sign +", "~end "}},
		{"points at numbers", "..5 ...5 1...", []string{"~sign .", "~number .5", " ~sign ...", "~number 5", " ~number 1...", "~end "}},
		{"characters", "'' 'a' '\\'' '\"'", []string{"~char ''", " ~char 'a'", " ~char '\\''", " ~char '\"'", "~end "}},
		{"strings", "\"\" \"'\" \"\\\\\"a\"", []string{"~string \"\"", " ~string \"'\"", " ~string \"\\\\\"", "~name a", "~odd \"", "~end "}},
		{"a quote behind a backslash", "'\\'", []string{"~odd '", "~odd \\", "~odd '", "~end "}},
		{"a line feed in a string", "\"a\n\"", []string{"~odd \"", "~name a", "\n~odd \"", "~end "}},
		{"a line feed behind a string's backslash", "\"a\\\nb\"", []string{"~odd \"", "~name a", "\\\n~name b", "~odd \"", "~end "}},
		{"a byte 13 behind a string's backslash", "\"a\\\r\nb\"", []string{"~odd \"", "~name a", "\\\r\n~name b", "~odd \"", "~end "}},
		{"a byte 13 in a string", "\"\r\"", []string{"~string \"\r\"", "~end "}},
		{"an odd quote ahead of a string", "'\"a'b\" '", []string{"~char '\"a'", "~name b", "~odd \"", " ~odd '", "~end "}},
		{"odd quotes in one line, strings in the next", "\"\\\" a '\\'\n\"\\\"\" '\\''", []string{"~odd \"", "~odd \\", "~odd \"", " ~name a", " ~odd '", "~odd \\", "~odd '", "\n~string \"\\\"\"", " ~char '\\''", "~end "}},
		{"the longest signs", "<<<= >>>= ->- ++++ &&& ... ..", []string{"~sign <<", "~sign <=", " ~sign >>", "~sign >=", " ~sign ->", "~sign -", " ~sign ++", "~sign ++", " ~sign &&", "~sign &", " ~sign ...", " ~sign .", "~sign .", "~end "}},
		{"no signs", "<<=< =>", []string{"~sign <<=", "~sign <", " ~sign =", "~sign >", "~end "}},
	} {
		if got := told(scan(t, c.s), true); !slices.Equal(got, c.want) {
			t.Errorf("%s: Scan(%q) = %q; want %q", c.name, c.s, got, c.want)
		}
	}
}

func TestPreprocessorLines(t *testing.T) {
	for _, c := range []struct {
		name, s string
		want    []string
	}{
		{"at the text's beginning", "#if a\nb", []string{"~line #if a", "\n~name b", "~end "}},
		{"at the text's end", "#", []string{"~line #", "~end "}},
		{"behind blanks and tabs", "a\n \t#b", []string{"~name a", "\n \t~line #b", "~end "}},
		{"behind a token", "a #b", []string{"~name a", " ~sign #", "~name b", "~end "}},
		{"behind a line", "#a\n#b", []string{"~line #a", "\n~line #b", "~end "}},
		{"behind a comment", "/* a */ #b", []string{"/* a */ ~line #b", "~end "}},
		{"behind a comment and a token", "a /* b */ #c", []string{"~name a", " /* b */ ~sign #", "~name c", "~end "}},
		{"behind a comment from lines before", "a /* b\n*/ /* c */ #d", []string{"~name a", " /* b\n*/ /* c */ ~line #d", "~end "}},
		{"behind a comment to the line's end", "// a\n#b", []string{"// a\n~line #b", "~end "}},
		{"behind a backslash at a line's end", "a\\\n#b", []string{"~name a", "\\\n~line #b", "~end "}},
		{"the same with the byte 13", "a\\\r\n#b", []string{"~name a", "\\\r\n~line #b", "~end "}},
		{"behind the byte 11", "\v#", []string{"\v~sign #", "~end "}},
		{"behind the byte 12", "\f #", []string{"\f ~sign #", "~end "}},
		{"behind the byte 13", "\n \r#", []string{"\n \r~sign #", "~end "}},
		{"behind the byte 13 and a comment from lines before", "\r/*\n*/#", []string{"\r/*\n*/~line #", "~end "}},
		{"behind a byte 13 of the line before", "\r\n#", []string{"\r\n~line #", "~end "}},
		{"with a backslash at its end", "#a\\\nb\\\\\nc\nd", []string{"~line #a\\\nb\\\\\nc", "\n~name d", "~end "}},
		{"with a backslash and the byte 13", "#a\\\r\nb\r\nc", []string{"~line #a\\\r\nb", "\r\n~name c", "~end "}},
		{"with a backslash and two bytes 13", "#a\\\r\r\nb", []string{"~line #a\\\r", "\r\n~name b", "~end "}},
		{"with two bytes 13", "#a\r\r\n", []string{"~line #a\r", "\r\n~end "}},
		{"with the byte 13 at the text's end", "#a\r", []string{"~line #a\r", "~end "}},
		{"with a backslash at the text's end", "#a\\", []string{"~line #a\\", "~end "}},
		{"with a backslash and a line feed at the text's end", "#a\\\n", []string{"~line #a\\\n", "~end "}},
		{"with a backslash ahead of a blank", "#a\\ \nb", []string{"~line #a\\ ", "\n~name b", "~end "}},
		{"with an empty line behind a backslash", "#\\\n\n#b", []string{"~line #\\\n", "\n~line #b", "~end "}},
		{"with comments", "#a /* b\n*/ // c", []string{"~line #a /* b", "\n~sign *", "~sign /", " // c~end "}},
		{"with quotes", "#a \"\nb", []string{"~line #a \"", "\n~name b", "~end "}},
		{"two signs", "##", []string{"~line ##", "~end "}},
	} {
		if got := told(scan(t, c.s), true); !slices.Equal(got, c.want) {
			t.Errorf("%s: Scan(%q) = %q; want %q", c.name, c.s, got, c.want)
		}
	}
}

func TestLimitsOfScan(t *testing.T) {
	many := strings.Repeat("; ", api.MaxTokens-1)
	long := strings.Repeat("a", api.MaxText)
	for _, c := range []struct {
		name, s string
		tokens  int
		want    api.Errno
	}{
		{"MaxTokens tokens with the end", many, api.MaxTokens, api.OK},
		{"one token more", many + ";", 0, api.ErrLimit},
		{"MaxText bytes", long, 2, api.OK},
		{"one byte more", long + "a", 0, api.ErrLimit},
		{"a blank more", long + " ", 0, api.ErrLimit},
		{"MaxText bytes before the end", strings.Repeat("\n", api.MaxText), 1, api.OK},
		{"MaxTokens quotes", strings.Repeat("\"\\", api.MaxText/2), 0, api.ErrLimit},
	} {
		if l, e := lex.Scan(c.s); len(l) != c.tokens || e != c.want {
			t.Errorf("%s: Scan = %d tokens, %d; want %d, %d", c.name, len(l), e, c.tokens, c.want)
		}
	}
}

// TestScanAgain scans the texts of tokens with a blank between each two (P2.5).
func TestScanAgain(t *testing.T) {
	for _, s := range someTexts() {
		l := scan(t, s)
		if slices.ContainsFunc(l, func(x api.Token) bool { return x.Kind == api.KOdd || x.Kind == api.KSign && x.Text == "#" }) {
			continue
		}
		want := told(slices.DeleteFunc(l, func(x api.Token) bool { return x.Kind == api.KLine }), false)
		if got := told(scan(t, strings.Join(lex.Strip(l), " ")), false); !slices.Equal(got, want) {
			t.Fatalf("the tokens of %q, scanned again, are %q; want %q", s, got, want)
		}
	}
}

func hasOpenComment(before string) bool {
	comments := commentForm.FindAllString(before, -1)
	if len(comments) == 0 {
		return false
	}
	body, ok := strings.CutPrefix(comments[len(comments)-1], "/*")
	return ok && !strings.HasSuffix(body, "*/")
}

// TestScanOfTwoTexts scans two texts with a line feed between (P2.6).
func TestScanOfTwoTexts(t *testing.T) {
	texts := someTexts()
	for i, a := range texts {
		b := texts[(i*7+1)%len(texts)]
		first := scan(t, a)
		end := first[len(first)-1]
		if strings.HasSuffix(a, "\\") || strings.HasSuffix(a, "\r") || hasOpenComment(end.Before) {
			continue
		}
		want := first[:len(first)-1]
		for j, x := range scan(t, b) {
			x.At += len(a) + 1
			if j == 0 {
				x.Before = end.Before + "\n" + x.Before
			}
			want = append(want, x)
		}
		if got := scan(t, a+"\n"+b); !slices.Equal(got, want) {
			t.Fatalf("Scan(%q) = %+v; want %+v", a+"\n"+b, got, want)
		}
	}
}
