package cond

import (
	"strconv"
	"strings"

	"smocking/api"
	"smocking/lex"
)

// Eval returns the value of an expression by definitions, and whether it is as said (P3.3).
func Eval(s string, defs []api.Pair) (int, bool) {
	l, bad := lex.Scan(s)
	if bad != api.OK {
		return 0, false
	}
	n, ok := evaluate(l[:len(l)-1], valuesOf(defs))
	return int(n), ok
}

// valuesOf returns the values of defined names.
func valuesOf(defs []api.Pair) map[string]int64 {
	values := map[string]int64{}
	for _, d := range defs {
		if _, ok := values[d.Name]; ok {
			continue
		}
		n, err := strconv.ParseInt(d.Value, 10, 64)
		if err != nil {
			n = 0
		}
		values[d.Name] = n
	}
	return values
}

// reader reads an expression, word by word.
type reader struct {
	words   []api.Token
	at      int
	values  map[string]int64
	between []operator
	ahead   []operatorAhead
}

// evaluate returns the value of an expression, and whether it is as said.
func evaluate(words []api.Token, values map[string]int64) (int64, bool) {
	r := &reader{words: words, values: values, between: operators(), ahead: operatorsAhead()}
	n, ok := r.expression(loosest)
	if !ok || r.at < len(words) {
		return 0, false
	}
	return n, true
}

// expression reads an expression whose operators outside of parentheses bind at least as tightly as a level.
func (r *reader) expression(level int) (int64, bool) {
	left, ok := r.operand()
	for ok {
		o, found := r.operator(level)
		if !found {
			return left, true
		}
		var right int64
		right, ok = r.expression(o.level + 1)
		left = o.value(left, right)
	}
	return 0, false
}

// operator reads an operator of at least a level, if there is one.
func (r *reader) operator(level int) (operator, bool) {
	for _, o := range r.between {
		if o.level >= level && r.skip(o.sign) {
			return o, true
		}
	}
	return operator{}, false
}

// operand reads what stands between two operators.
func (r *reader) operand() (int64, bool) {
	for _, o := range r.ahead {
		if r.skip(o.sign) {
			n, ok := r.operand()
			return o.value(n), ok
		}
	}
	if r.skip("(") {
		n, ok := r.expression(loosest)
		return n, ok && r.skip(")")
	}
	if r.skip("defined") {
		return r.defined()
	}
	word := r.take()
	switch word.Kind {
	case api.KName:
		return r.values[word.Text], true
	case api.KNumber:
		return number(word.Text)
	}
	return 0, false
}

// defined reads the name behind the word defined, and tells whether it is.
func (r *reader) defined() (int64, bool) {
	inside := r.skip("(")
	name := r.take()
	if name.Kind != api.KName || name.Text == "defined" || inside && !r.skip(")") {
		return 0, false
	}
	_, defined := r.values[name.Text]
	return oneIf(defined), true
}

// skip goes over the next word if it has a text, and tells whether it did.
func (r *reader) skip(text string) bool {
	if r.at == len(r.words) || r.words[r.at].Text != text {
		return false
	}
	r.at++
	return true
}

// take goes over the next word, if there is one, and returns it.
func (r *reader) take() api.Token {
	if r.at == len(r.words) {
		return api.Token{}
	}
	r.at++
	return r.words[r.at-1]
}

// number tells the value of a number's text modulo 2^64, and whether it is as said.
func number(s string) (int64, bool) {
	s = strings.TrimRight(s, "ulUL")
	base := uint64(10)
	if strings.HasPrefix(s, "0x") {
		base = 16
		s = s[2:]
	} else if strings.HasPrefix(s, "0") {
		base = 8
	}
	n := uint64(0)
	for _, b := range []byte(s) {
		d := digit(b)
		if d >= base {
			return 0, false
		}
		n = n*base + d
	}
	return int64(n), s != ""
}

// digit tells the value of a digit of base 16, or 16 for another byte.
func digit(b byte) uint64 {
	switch {
	case '0' <= b && b <= '9':
		return uint64(b - '0')
	case 'a' <= b && b <= 'f':
		return uint64(b-'a') + 10
	case 'A' <= b && b <= 'F':
		return uint64(b-'A') + 10
	}
	return 16
}
