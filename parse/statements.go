package parse

import (
	"smocking/api"
	"smocking/macro"
)

// statement reads a statement. What its beginning tells has to be read whole.
func (r *reader) statement() part {
	switch r.word(r.at) {
	case "{":
		return r.block()
	case ";":
		return r.empty()
	case "if":
		return r.choice()
	case "while":
		return r.conditional(api.OWhile)
	case "switch":
		return r.conditional(api.OSwitch)
	case "do":
		return r.doLoop()
	case "for":
		return r.forLoop()
	case "case":
		return r.caseMark()
	case "default":
		return r.defaultMark()
	case "goto":
		return r.jump()
	case "return":
		return r.result()
	case "break":
		return r.alone(api.OBreak)
	case "continue":
		return r.alone(api.OContinue)
	}
	return r.statementByNames()
}

// statementByNames reads a statement that begins with no key of statements.
func (r *reader) statementByNames() part {
	if r.isName(r.at) && r.isAt(r.at+1, ":") {
		return r.label()
	}
	switch r.use() {
	case macro.Loop:
		return r.macroLoop()
	case macro.Statement:
		return r.macroStatement()
	}
	if r.beginsDeclaration() {
		return r.declaration(r.isTypeInBlock)
	}
	from := r.at
	n := r.expression()
	r.expect(";")
	return r.node(api.OExpr, "", from, n)
}

func (r *reader) block() part {
	from := r.at
	r.expect("{")
	var parts []part
	for !r.take("}") {
		parts = append(parts, r.deeper(r.statement))
	}
	return r.node(api.OBlock, "", from, parts...)
}

func (r *reader) empty() part {
	from := r.at
	r.expect(";")
	return r.node(api.OEmpty, "", from)
}

// alone reads a key and a semicolon.
func (r *reader) alone(op int) part {
	from := r.at
	r.at++
	r.expect(";")
	return r.node(op, "", from)
}

// condition reads an expression in parentheses that are not its own.
func (r *reader) condition() part {
	r.expect("(")
	n := r.expression()
	r.expect(")")
	return n
}

func (r *reader) choice() part {
	from := r.at
	r.at++
	parts := []part{r.condition(), r.deeper(r.statement)}
	if r.take("else") {
		parts = append(parts, r.deeper(r.statement))
	}
	return r.node(api.OIf, "", from, parts...)
}

// conditional reads a key with a condition and a statement.
func (r *reader) conditional(op int) part {
	from := r.at
	r.at++
	test := r.condition()
	body := r.deeper(r.statement)
	return r.node(op, "", from, test, body)
}

func (r *reader) doLoop() part {
	from := r.at
	r.at++
	body := r.deeper(r.statement)
	r.expect("while")
	test := r.condition()
	r.expect(";")
	return r.node(api.ODo, "", from, body, test)
}

func (r *reader) forLoop() part {
	from := r.at
	r.at++
	r.expect("(")
	first := r.first()
	test := r.upTo(";", api.OTest)
	last := r.upTo(")", api.OLast)
	body := r.deeper(r.statement)
	return r.node(api.OFor, "", from, first, test, last, body)
}

// first reads what a for does first: a declaration, which has its semicolon, or perhaps an expression, which has none.
func (r *reader) first() part {
	if !r.beginsDeclaration() {
		return r.upTo(";", api.OFirst)
	}
	from := r.at
	n := r.declaration(r.isTypeInBlock)
	return r.node(api.OFirst, "", from, n)
}

// upTo reads perhaps an expression up to a sign, which is not the node's own.
func (r *reader) upTo(end string, op int) part {
	from := r.at
	var parts []part
	if !r.is(end) {
		parts = append(parts, r.expression())
	}
	n := r.node(op, "", from, parts...)
	r.expect(end)
	return n
}

func (r *reader) caseMark() part {
	from := r.at
	r.at++
	value := r.expression()
	body := r.marked()
	return r.node(api.OCase, "", from, value, body)
}

func (r *reader) defaultMark() part {
	from := r.at
	r.at++
	body := r.marked()
	return r.node(api.ODefault, "", from, body)
}

func (r *reader) label() part {
	from := r.at
	name := r.name()
	body := r.marked()
	return r.node(api.OLabel, name, from, body)
}

// marked reads the colon of a mark and the statement behind it, which has no tokens if the block ends there.
func (r *reader) marked() part {
	r.expect(":")
	if r.is("}") {
		return r.node(api.OEmpty, "", r.at)
	}
	return r.deeper(r.statement)
}

func (r *reader) jump() part {
	from := r.at
	r.at++
	name := r.name()
	r.expect(";")
	return r.node(api.OGoto, name, from)
}

func (r *reader) result() part {
	from := r.at
	r.at++
	var parts []part
	if !r.is(";") {
		parts = append(parts, r.expression())
	}
	r.expect(";")
	return r.node(api.OReturn, "", from, parts...)
}

func (r *reader) macroLoop() part {
	from := r.at
	call := r.call()
	body := r.deeper(r.statement)
	return r.node(api.OLoop, "", from, call, body)
}

func (r *reader) macroStatement() part {
	from := r.at
	if r.isAt(r.at+1, "(") {
		return r.node(api.OMacro, "", from, r.call())
	}
	return r.node(api.OMacro, "", from, r.nameNode())
}
