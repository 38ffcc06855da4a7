package macro

import (
	"slices"
	"strings"

	"smocking/api"
	"smocking/cond"
	"smocking/lex"
)

// Def is what a define or undef says of a name.
type Def struct {
	Name   string
	At     int // the token
	Params []string
	Fun    bool // it has parameters, perhaps none
	Body   string
	Gone   bool // undef
}

// definition is a Def with the words of its body, which cannot be told from the body's text alone: with a blank
// between, two odd quotes would be a character.
type definition struct {
	Def
	words []string
}

// Define returns the definition that a directive is (P4.1).
func Define(t api.Token) (Def, bool) {
	d, ok := define(t)
	return d.Def, ok
}

func define(t api.Token) (definition, bool) {
	kind := cond.Kind(t)
	if kind != "define" && kind != "undef" {
		return definition{}, false
	}
	words, _ := cond.Words(t)
	if len(words) < 2 || words[1].Kind != api.KName {
		return definition{}, false
	}
	name, rest := words[1].Text, words[2:]
	if kind == "undef" {
		return definition{Def: Def{Name: name, Gone: true}}, true
	}
	return defineAs(name, rest)
}

// defineAs returns the definition of a name by the words behind it.
func defineAs(name string, rest []api.Token) (definition, bool) {
	d := definition{Def: Def{Name: name}}
	if len(rest) > 0 && isOneOf(rest[0], "(") && rest[0].Before == "" {
		d.Params, rest, d.Fun = readParams(rest[1:])
		if !d.Fun {
			return definition{}, false
		}
	}
	d.words = lex.Strip(rest)
	d.Body = strings.Join(d.words, " ")
	return d, true
}

// others is how the parameter is written that takes all arguments that are left.
const others = "..."

// readParams reads parameters up to the closing parenthesis, and returns the words behind it, too.
func readParams(words []api.Token) (params []string, rest []api.Token, ok bool) {
	if len(words) > 0 && isOneOf(words[0], ")") {
		return nil, words[1:], true
	}
	for len(words) >= 2 {
		param, behind := words[0], words[1]
		words = words[2:]
		isOthers := isOneOf(param, others)
		if param.Kind != api.KName && !isOthers {
			break
		}
		params = append(params, param.Text)
		if isOneOf(behind, ")") {
			return params, words, true
		}
		if isOthers || !isOneOf(behind, ",") {
			break
		}
	}
	return nil, nil, false
}

// Defs returns all definitions, and what ends them, in the order of tokens (P4.1).
func Defs(l []api.Token) []Def {
	var all []Def
	for i, t := range l {
		if d, ok := Define(t); ok {
			d.At = i
			all = append(all, d)
		}
	}
	return all
}

// Find returns the definition of a name at a place of the tokens (P4.1).
func Find(l []api.Token, name string, at int) (Def, bool) {
	d, ok := find(l, name, at)
	return d.Def, ok
}

func find(l []api.Token, name string, at int) (definition, bool) {
	for i, t := range slices.Backward(l[:max(0, min(at, len(l)))]) {
		d, ok := define(t)
		if !ok || d.Name != name {
			continue
		}
		if d.Gone {
			break
		}
		d.At = i
		return d, true
	}
	return definition{}, false
}
