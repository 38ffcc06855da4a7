package parse

import (
	"slices"
	"strings"

	"smocking/api"
	"smocking/macro"
)

// reader is at a place of a view, up to which a file's items have been read.
type reader struct {
	tokens   []api.Token
	given    []int // the view as it is given
	view     []int // the same without Attributes and KEnd
	places   []int // where the tokens of view are in given
	end      int   // the place in the tokens of what is behind view
	typedefs map[string]bool
	at       int
	level    int // of what is read now, at least
}

// part is a node with the number of its levels and nodes.
type part struct {
	api.Node
	levels, nodes int
}

// unreadable is what the reader panics with to leave what cannot be read whole.
type unreadable struct{}

func newReader(l []api.Token, view []int) *reader {
	r := &reader{tokens: l, given: view, end: len(l), typedefs: map[string]bool{}, level: 1}
	for k := 0; k < len(view); {
		t := l[view[k]]
		switch {
		case t.Kind == api.KEnd:
			r.end = view[k]
			k++
		case t.Kind == api.KName && macro.Capital(t.Text) && r.guess(k) == macro.Attribute:
			k, _ = macro.Call(l, view, k)
		default:
			r.view = append(r.view, view[k])
			r.places = append(r.places, k)
			k++
		}
	}
	return r
}

// guess tells what kind of use a name is, by its place in the given view.
func (r *reader) guess(k int) int {
	kind, _ := macro.Guess(r.tokens, r.given, k)
	return kind
}

// use tells what kind of use the next token is. It asks only of names that can be more than a value, as each guess goes
// through the whole view.
func (r *reader) use() int {
	if !r.isName(r.at) || !r.isAt(r.at+1, "(") && !macro.Capital(r.token(r.at).Text) {
		return macro.Value
	}
	return r.guess(r.places[r.at])
}

// attempt reads what has to be read whole, and tells whether it can be; if not, the reader is where it was.
func (r *reader) attempt(read func() part) (n part, ok bool) {
	from := r.at
	defer func() {
		switch left := recover().(type) {
		case nil:
		case unreadable:
			r.at = from
			r.level = 1
		default:
			panic(left)
		}
	}()
	n = read()
	return n, true
}

// leave leaves what cannot be read whole.
func (r *reader) leave() {
	panic(unreadable{})
}

// node makes a node of the tokens from a place on that have been read.
func (r *reader) node(op int, s string, from int, parts ...part) part {
	n := part{Node: api.Node{Op: op, S: s, From: r.place(from), To: r.place(from)}, levels: 1, nodes: 1}
	if r.at > from {
		n.To = r.place(r.at-1) + 1
	}
	for _, p := range parts {
		n.L = append(n.L, p.Node)
		n.levels = max(n.levels, 1+p.levels)
		n.nodes += p.nodes
	}
	if n.levels > api.MaxNest {
		r.leave()
	}
	return n
}

// deeper reads a part of what is read now. Levels are told from below by node; here they are counted from above, as a
// text may open more of them than the stack has room for.
func (r *reader) deeper(read func() part) part {
	if r.level == api.MaxNest {
		r.leave()
	}
	r.level++
	n := read()
	r.level--
	return n
}

// several reads what has commas between.
func (r *reader) several(read func() part) []part {
	parts := []part{read()}
	for r.take(",") {
		parts = append(parts, read())
	}
	return parts
}

// place tells where a token of the view is in the tokens.
func (r *reader) place(k int) int {
	if k < len(r.view) {
		return r.view[k]
	}
	return r.end
}

// token returns the token at a place of the view. Beyond the view it is like KEnd.
func (r *reader) token(k int) api.Token {
	if k < len(r.view) {
		return r.tokens[r.view[k]]
	}
	return api.Token{}
}

func (r *reader) isName(k int) bool {
	return r.token(k).Kind == api.KName
}

// word returns the sign or key at a place, or nothing.
func (r *reader) word(k int) string {
	t := r.token(k)
	if t.Kind == api.KSign || t.Kind == api.KKey {
		return t.Text
	}
	return ""
}

// isAt tells whether one of some signs and keys is at a place.
func (r *reader) isAt(k int, words ...string) bool {
	word := r.word(k)
	return word != "" && slices.Contains(words, word)
}

// is tells whether one of some signs and keys is next.
func (r *reader) is(words ...string) bool {
	return r.isAt(r.at, words...)
}

// take goes over one of some signs and keys, if it is next, and tells whether it did.
func (r *reader) take(words ...string) bool {
	if !r.is(words...) {
		return false
	}
	r.at++
	return true
}

// takeAll goes over all signs and keys that are next and wanted, and returns them with blanks between.
func (r *reader) takeAll(isWanted func(word string) bool) string {
	var taken []string
	for isWanted(r.word(r.at)) {
		taken = append(taken, r.next())
	}
	return strings.Join(taken, " ")
}

// expect goes over a sign or key that has to be next.
func (r *reader) expect(word string) {
	if !r.take(word) {
		r.leave()
	}
}

// next goes over the next token, and returns its text.
func (r *reader) next() string {
	text := r.token(r.at).Text
	r.at++
	return text
}

// name goes over a name that has to be next, and returns it.
func (r *reader) name() string {
	if !r.isName(r.at) {
		r.leave()
	}
	return r.next()
}
