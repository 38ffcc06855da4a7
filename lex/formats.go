package lex

import (
	"strings"

	"smocking/api"
)

// Formats returns the formats in a string token's text (P2.3).
func Formats(s string) ([]string, api.Errno) {
	if !isString(s) {
		return nil, api.ErrForm
	}
	var formats []string
	for at := 0; at < len(s); {
		size := formatSize(s[at:])
		if size == 0 {
			at++
			continue
		}
		formats = append(formats, s[at:at+size])
		at += size
	}
	return formats, api.OK
}

// isString tells whether a text is that of a string token.
func isString(s string) bool {
	if !strings.HasPrefix(s, "\"") {
		return false
	}
	size, ok := quotedSize(s)
	return ok && size == len(s)
}

// formatSize tells how many bytes the whole format has with which a text begins: 0 if it begins otherwise.
func formatSize(s string) int {
	rest, ok := strings.CutPrefix(s, "%")
	if !ok {
		return 0
	}
	rest = strings.TrimLeft(rest, "-+ #0")
	rest = strings.TrimLeft(rest, digits)
	if behind, ok := strings.CutPrefix(rest, "."); ok {
		rest = strings.TrimLeft(behind, digits)
	}
	rest = strings.TrimLeft(rest, "hl")
	if rest == "" || !strings.Contains("diuxXcsp%", rest[:1]) {
		return 0
	}
	return len(s) - len(rest) + 1
}

const digits = "0123456789"
