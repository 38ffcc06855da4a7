package parse

import (
	"strings"

	"smocking/api"
)

// signs stand between two parts of an expression. Those of a higher level bind more tightly.
var signs = [...]struct {
	word  string
	level int
}{
	{"||", 0}, {"&&", 1}, {"|", 2}, {"^", 3}, {"&", 4}, {"==", 5}, {"!=", 5}, {"<", 6}, {"<=", 6}, {">", 6}, {">=", 6},
	{"<<", 7}, {">>", 7}, {"+", 8}, {"-", 8}, {"*", 9}, {"/", 9}, {"%", 9},
}

// expression reads an expression, which may have commas.
func (r *reader) expression() part {
	from := r.at
	parts := r.several(r.assignment)
	if len(parts) == 1 {
		return parts[0]
	}
	return r.node(api.EComma, "", from, parts...)
}

// assignment reads an expression without commas.
func (r *reader) assignment() part {
	from := r.at
	left := r.conditionalValue()
	if !r.is("=", "+=", "-=", "*=", "/=", "%=", "&=", "|=", "^=", "<<=", ">>=") {
		return left
	}
	sign := r.next()
	right := r.deeper(r.assignment)
	return r.node(api.EAssign, sign, from, left, right)
}

func (r *reader) conditionalValue() part {
	from := r.at
	test := r.binary(0)
	if !r.take("?") {
		return test
	}
	yes := r.deeper(r.expression)
	r.expect(":")
	no := r.deeper(r.conditionalValue)
	return r.node(api.ECond, "", from, test, yes, no)
}

// binary reads an expression whose signs are of a level or higher ones.
func (r *reader) binary(loosest int) part {
	from := r.at
	left := r.unary()
	for {
		level := levelOf(r.word(r.at))
		if level < loosest {
			return left
		}
		sign := r.next()
		right := r.binary(level + 1)
		left = r.node(api.EBinary, sign, from, left, right)
	}
}

// levelOf tells the level of a sign between two parts, or -1 for any other word.
func levelOf(word string) int {
	for _, sign := range signs {
		if sign.word == word {
			return sign.level
		}
	}
	return -1
}

func (r *reader) unary() part {
	from := r.at
	if r.isTypeInside(r.at) {
		kind := r.typeInside()
		value := r.deeper(r.unary)
		return r.node(api.ECast, "", from, kind, value)
	}
	if r.is("sizeof") && r.isTypeInside(r.at+1) {
		r.at++
		kind := r.typeInside()
		return r.node(api.ESizeof, "", from, kind)
	}
	if r.is("!", "~", "-", "+", "*", "&", "++", "--", "sizeof") {
		sign := r.next()
		value := r.deeper(r.unary)
		return r.node(api.EUnary, sign, from, value)
	}
	return r.postfix()
}

// isTypeInside tells whether a parenthesis is at a place, and a type begins in it.
func (r *reader) isTypeInside(k int) bool {
	return r.isAt(k, "(") && r.beginsType(k+1, r.isTypeInParens)
}

// typeInside reads a type in parentheses that are not its own.
func (r *reader) typeInside() part {
	r.expect("(")
	n := r.typeOf(r.isTypeInParens, true)
	r.expect(")")
	return n
}

// postfix reads a primary expression with what stands behind it.
func (r *reader) postfix() part {
	from := r.at
	n := r.primary()
	for {
		switch r.word(r.at) {
		case "(":
			n = r.callOf(n, from)
		case "[":
			r.at++
			index := r.deeper(r.expression)
			r.expect("]")
			n = r.node(api.EIndex, "", from, n, index)
		case ".", "->":
			sign := r.next()
			name := r.name()
			n = r.node(api.EMember, sign+" "+name, from, n)
		case "++", "--":
			sign := r.next()
			n = r.node(api.EPost, sign, from, n)
		default:
			return n
		}
	}
}

// callOf reads the arguments of a call of what was read from a place on.
func (r *reader) callOf(called part, from int) part {
	r.expect("(")
	parts := []part{called}
	if !r.is(")") {
		parts = append(parts, r.several(r.argument)...)
	}
	r.expect(")")
	return r.node(api.ECall, "", from, parts...)
}

func (r *reader) argument() part {
	return r.deeper(r.assignment)
}

// call reads a name with its arguments, and nothing that may stand behind them.
func (r *reader) call() part {
	from := r.at
	name := r.nameNode()
	return r.callOf(name, from)
}

func (r *reader) primary() part {
	switch r.token(r.at).Kind {
	case api.KName:
		return r.nameNode()
	case api.KNumber:
		return r.leaf(api.ENumber)
	case api.KChar:
		return r.leaf(api.EChar)
	case api.KString:
		return r.text()
	}
	from := r.at
	r.expect("(")
	inside := r.deeper(r.expression)
	r.expect(")")
	return r.node(api.EParen, "", from, inside)
}

// leaf makes a node of the next token.
func (r *reader) leaf(op int) part {
	from := r.at
	text := r.next()
	return r.node(op, text, from)
}

func (r *reader) nameNode() part {
	if !r.isName(r.at) {
		r.leave()
	}
	return r.leaf(api.EName)
}

// text reads all strings that are next.
func (r *reader) text() part {
	from := r.at
	var texts []string
	for r.token(r.at).Kind == api.KString {
		texts = append(texts, r.next())
	}
	return r.node(api.EString, strings.Join(texts, " "), from)
}
