package macro

import (
	"strings"

	"smocking/api"
)

// Expand returns the body of a definition with its parameters exchanged for arguments (P4.4).
func Expand(l []api.Token, name string, args []string, at int) (string, api.Errno) {
	d, ok := find(l, name, at)
	if !ok {
		return "", api.ErrNone
	}
	if !d.takes(args...) {
		return "", api.ErrForm
	}
	return d.bodyWith(args...), api.OK
}

// takes tells whether a definition goes together with arguments.
func (d definition) takes(args ...string) bool {
	n := len(d.Params)
	if n > 0 && d.Params[n-1] == others {
		return len(args) >= n-1
	}
	return len(args) == n
}

// bodyWith returns the body with arguments that the definition takes.
func (d definition) bodyWith(args ...string) string {
	values := d.values(args...)
	var words []string
	for _, word := range d.words {
		if value, ok := values[word]; ok {
			word = value
		}
		if word != "" {
			words = append(words, word)
		}
	}
	return strings.Join(words, " ")
}

// values returns what stands for the names of the parameters.
func (d definition) values(args ...string) map[string]string {
	values := map[string]string{}
	for i, name := range d.Params {
		value := ""
		if name == others {
			name = "__VA_ARGS__"
			value = strings.Join(args[i:], ", ")
		} else {
			value = args[i]
		}
		if _, ok := values[name]; !ok {
			values[name] = value
		}
	}
	return values
}
