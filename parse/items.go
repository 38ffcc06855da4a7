package parse

import (
	"smocking/api"
	"smocking/macro"
)

// item reads the next item: the first one in this order that can be read whole.
func (r *reader) item() part {
	for _, read := range []func() part{r.typedef, r.structure, r.function, r.variables, r.declarer, r.empty} {
		if n, ok := r.attempt(read); ok {
			return n
		}
	}
	return r.raw()
}

func (r *reader) typedef() part {
	from := r.at
	r.expect("typedef")
	kind := r.typeOf(r.isName, false)
	declared := r.declarator()
	r.expect(";")
	n := r.node(api.OTypedef, "", from, kind, declared)
	r.typedefs[declared.S] = true
	return n
}

func (r *reader) structure() part {
	from := r.at
	r.expect("struct")
	name := r.name()
	r.expect("{")
	var fields []part
	for !r.take("}") {
		fields = append(fields, r.field())
	}
	r.expect(";")
	return r.node(api.OStruct, name, from, fields...)
}

func (r *reader) field() part {
	from := r.at
	parts := []part{r.typeOf(r.isName, false)}
	parts = append(parts, r.several(r.declarator)...)
	r.expect(";")
	return r.node(api.ODecl, "", from, parts...)
}

func (r *reader) function() part {
	from := r.at
	words := r.takeAll(isDeclarationWord)
	parts := []part{r.typeOf(r.isName, true), r.nameNode()}
	r.expect("(")
	parts = append(parts, r.params()...)
	r.expect(")")
	parts = append(parts, r.block())
	return r.node(api.OFunc, words, from, parts...)
}

// params reads parameters up to the closing parenthesis. The dots behind the last one make no node.
func (r *reader) params() []part {
	if r.is(")") {
		return nil
	}
	if r.is("void") && r.isAt(r.at+1, ")") {
		r.at++
		return nil
	}
	params := []part{r.param()}
	for r.take(",") {
		if r.take("...") {
			break
		}
		params = append(params, r.param())
	}
	return params
}

func (r *reader) param() part {
	from := r.at
	parts := []part{r.typeOf(r.isName, true)}
	if r.isName(r.at) {
		begin := r.at
		name := r.name()
		parts = append(parts, r.node(api.OVar, name, begin, r.sizes()...))
	}
	return r.node(api.OParam, "", from, parts...)
}

func (r *reader) variables() part {
	return r.declaration(r.isName)
}

func (r *reader) declarer() part {
	from := r.at
	if r.use() != macro.Declarer {
		r.leave()
	}
	call := r.call()
	r.take(";")
	return r.node(api.OMacro, "", from, call)
}

// raw goes over what cannot be read. All kinds of brackets are counted as one, so that none is waited for that may
// never come.
func (r *reader) raw() part {
	from := r.at
	open := 0
	for r.at < len(r.view) {
		word := r.word(r.at)
		r.at++
		switch word {
		case "(", "[", "{":
			open++
		case ")", "]", "}":
			open = max(0, open-1)
		}
		if open > 0 {
			continue
		}
		if word == "}" {
			r.take(";")
		}
		if word == "}" || word == ";" {
			break
		}
	}
	return r.node(api.ORaw, "", from)
}
