package parse

import (
	"smocking/api"
)

// isDeclarationWord tells of a word that stands ahead of the type of a declaration or function.
func isDeclarationWord(word string) bool {
	return word == "static" || word == "extern" || isQualifier(word)
}

// isQualifier tells of a word that belongs to a type, but does not tell it.
func isQualifier(word string) bool {
	return word == "const" || word == "volatile"
}

// isBaseWord tells of a word that is a type alone or with others of its kind.
func isBaseWord(word string) bool {
	switch word {
	case "int", "char", "short", "long", "signed", "unsigned", "void":
		return true
	}
	return false
}

// isTagWord tells of a word that is a type with the name behind it.
func isTagWord(word string) bool {
	return word == "struct" || word == "union" || word == "enum"
}

// declaration reads a declaration with its words. isType tells of which places a name there would be a type's.
func (r *reader) declaration(isType func(k int) bool) part {
	from := r.at
	words := r.takeAll(isDeclarationWord)
	parts := []part{r.typeOf(isType, false)}
	parts = append(parts, r.several(r.initialized)...)
	r.expect(";")
	return r.node(api.ODecl, words, from, parts...)
}

// typeOf reads a type, with stars if they belong to it.
func (r *reader) typeOf(isType func(k int) bool, hasStars bool) part {
	from := r.at
	r.takeAll(isQualifier)
	base := r.base(isType)
	r.takeAll(isQualifier)
	stars := 0
	for hasStars && r.take("*") {
		stars++
		r.take("const", "volatile")
	}
	n := r.node(api.OType, base, from)
	n.N = stars
	return n
}

func (r *reader) base(isType func(k int) bool) string {
	if words := r.takeAll(isBaseWord); words != "" {
		return words
	}
	if isTagWord(r.word(r.at)) {
		tag := r.next()
		return tag + " " + r.name()
	}
	if !isType(r.at) {
		r.leave()
	}
	return r.name()
}

// beginsType tells whether a type begins at a place.
func (r *reader) beginsType(k int, isType func(k int) bool) bool {
	word := r.word(k)
	return isQualifier(word) || isBaseWord(word) || isTagWord(word) || isType(k)
}

// beginsDeclaration tells whether a declaration in a block is next.
func (r *reader) beginsDeclaration() bool {
	return isDeclarationWord(r.word(r.at)) || r.beginsType(r.at, r.isTypeInBlock)
}

// isTypeInBlock tells whether a type's name is at a place at which a declaration in a block may begin.
func (r *reader) isTypeInBlock(k int) bool {
	if !r.isName(k) {
		return false
	}
	if r.isTypedef(k) || r.isName(k+1) {
		return true
	}
	behind := r.behindStars(k + 1)
	return r.isName(behind) && r.isAt(behind+1, "=", ";", ",", "[")
}

// isTypeInParens tells whether a type's name is at a place behind a parenthesis that may begin a cast.
func (r *reader) isTypeInParens(k int) bool {
	if !r.isName(k) {
		return false
	}
	behind := r.behindStars(k + 1)
	return r.isTypedef(k) || behind > k+1 && r.isAt(behind, ")")
}

// isTypedef tells whether a name is one that an item before this one declares as a type's.
func (r *reader) isTypedef(k int) bool {
	return r.typedefs[r.token(k).Text]
}

func (r *reader) behindStars(k int) int {
	for r.isAt(k, "*") {
		k++
	}
	return k
}

// declarator reads a declared name without what it is set to.
func (r *reader) declarator() part {
	return r.declared(false)
}

// initialized reads a declared name, perhaps with what it is set to.
func (r *reader) initialized() part {
	return r.declared(true)
}

func (r *reader) declared(mayBeSet bool) part {
	from := r.at
	stars := 0
	for r.take("*") {
		stars++
	}
	name := r.name()
	parts := r.sizes()
	if mayBeSet && r.take("=") {
		begin := r.at
		value := r.initializer()
		parts = append(parts, r.node(api.OInit, "", begin, value))
	}
	n := r.node(api.OVar, name, from, parts...)
	n.N = stars
	return n
}

// sizes reads the sizes of arrays.
func (r *reader) sizes() []part {
	var sizes []part
	for r.is("[") {
		from := r.at
		r.at++
		var parts []part
		if !r.is("]") {
			parts = append(parts, r.expression())
		}
		r.expect("]")
		sizes = append(sizes, r.node(api.OSize, "", from, parts...))
	}
	return sizes
}

// initializer reads an expression without a comma, or a list of initializers.
func (r *reader) initializer() part {
	if !r.is("{") {
		return r.assignment()
	}
	from := r.at
	r.at++
	var parts []part
	for !r.is("}") {
		parts = append(parts, r.deeper(r.initializer))
		if !r.take(",") {
			break
		}
	}
	r.expect("}")
	return r.node(api.OList, "", from, parts...)
}
