package parse_test

import (
	"math/rand"
	"strings"
	"testing"

	"smocking/api"
)

// maker makes texts of words, and their trees as the chapter says, with places in the words. All of its names are
// small but those of macros, so that no others are guessed to be attributes.
type maker struct {
	r        *rand.Rand
	words    []string
	typedefs []string
	depth    int
}

func (m *maker) chance(of int) bool {
	return m.r.Intn(of) == 0
}

func (m *maker) one(words string) string {
	all := strings.Fields(words)
	return all[m.r.Intn(len(all))]
}

func (m *maker) put(words ...string) string {
	m.words = append(m.words, words...)
	return strings.Join(words, " ")
}

// place tells where the next word will be.
func (m *maker) place() int {
	return len(m.words)
}

// node is one of the words from a place on.
func (m *maker) node(op int, s string, from int, parts ...api.Node) api.Node {
	return api.Node{Op: op, S: s, From: from, To: len(m.words), L: parts}
}

func (m *maker) name() string {
	return m.put(m.one("a b c d e f"))
}

func (m *maker) leaf(op int, word string) api.Node {
	from := m.place()
	m.put(word)
	return m.node(op, word, from)
}

// isShallow tells whether what has parts may be made.
func (m *maker) isShallow() bool {
	return m.depth < 7
}

const (
	comma = iota
	assign
	condition
	firstBinary
	unary = firstBinary + 10
)

// value makes an expression of a level or a tighter one.
func (m *maker) value(level int) api.Node {
	if !m.isShallow() || !m.chance(6) {
		if level < unary {
			return m.value(level + 1)
		}
		return m.postfix()
	}
	m.depth++
	defer func() { m.depth-- }()
	from := m.place()
	switch level {
	case comma:
		parts := []api.Node{m.value(assign)}
		for len(parts) < 2 || m.chance(3) {
			m.put(",")
			parts = append(parts, m.value(assign))
		}
		return m.node(api.EComma, "", from, parts...)
	case assign:
		left := m.value(condition)
		sign := m.put(m.one("= += -= *= /= %= &= |= ^= <<= >>="))
		right := m.value(assign)
		return m.node(api.EAssign, sign, from, left, right)
	case condition:
		test := m.value(firstBinary)
		m.put("?")
		yes := m.value(comma)
		m.put(":")
		no := m.value(condition)
		return m.node(api.ECond, "", from, test, yes, no)
	case unary:
		return m.unary()
	}
	left := m.value(level)
	sign := m.put(m.one([]string{"||", "&&", "|", "^", "&", "== !=", "< <= > >=", "<< >>", "+ -", "* / %"}[level-firstBinary]))
	right := m.value(level + 1)
	return m.node(api.EBinary, sign, from, left, right)
}

func (m *maker) unary() api.Node {
	from := m.place()
	switch m.r.Intn(5) {
	case 0:
		m.put("(")
		kind := m.kindInside()
		m.put(")")
		part := m.value(unary)
		return m.node(api.ECast, "", from, kind, part)
	case 1:
		m.put("sizeof", "(")
		kind := m.kindInside()
		m.put(")")
		return m.node(api.ESizeof, "", from, kind)
	case 2:
		m.put("sizeof")
		part := m.postfix()
		return m.node(api.EUnary, "sizeof", from, part)
	}
	sign := m.put(m.one("! ~ - + * & ++ --"))
	part := m.value(unary)
	return m.node(api.EUnary, sign, from, part)
}

func (m *maker) postfix() api.Node {
	from := m.place()
	n := m.primary()
	for m.isShallow() && m.chance(3) {
		switch m.r.Intn(4) {
		case 0:
			n = m.callOf(n, from)
		case 1:
			m.put("[")
			index := m.value(comma)
			m.put("]")
			n = m.node(api.EIndex, "", from, n, index)
		case 2:
			sign := m.put(m.one(". ->"))
			name := m.name()
			n = m.node(api.EMember, sign+" "+name, from, n)
		case 3:
			sign := m.put(m.one("++ --"))
			n = m.node(api.EPost, sign, from, n)
		}
	}
	return n
}

func (m *maker) callOf(called api.Node, from int) api.Node {
	m.put("(")
	parts := []api.Node{called}
	for i := range m.r.Intn(4) {
		if i > 0 {
			m.put(",")
		}
		parts = append(parts, m.value(assign))
	}
	m.put(")")
	return m.node(api.ECall, "", from, parts...)
}

func (m *maker) primary() api.Node {
	from := m.place()
	switch m.r.Intn(9) {
	case 0:
		return m.leaf(api.ENumber, m.one("1 0x2 .5 1e+3"))
	case 1:
		return m.leaf(api.EChar, m.one("'a' ';'"))
	case 2:
		s := m.put(m.one("\"a\" \"}\""))
		for m.chance(3) {
			s += " " + m.put("\"b\"")
		}
		return m.node(api.EString, s, from)
	case 3, 4:
		if m.isShallow() {
			m.put("(")
			inside := m.value(comma)
			m.put(")")
			return m.node(api.EParen, "", from, inside)
		}
	}
	return m.leaf(api.EName, m.one("a b c d e f"))
}

// kindInside makes a type in parentheses, with stars.
func (m *maker) kindInside() api.Node {
	from := m.place()
	if m.chance(4) {
		s := m.put(m.one("g h"))
		stars := 1 + m.r.Intn(2)
		for range stars {
			m.put("*")
		}
		n := m.node(api.OType, s, from)
		n.N = stars
		return n
	}
	return m.kind(true, len(m.typedefs) > 0 && m.chance(3), false)
}

// kind makes a type. A name as one is a typedef's, or any.
func (m *maker) kind(hasStars, isTypedef, isAny bool) api.Node {
	from := m.place()
	m.qualify()
	s := ""
	switch {
	case isTypedef:
		s = m.put(m.typedefs[m.r.Intn(len(m.typedefs))])
		m.qualify()
	case isAny:
		s = m.put(m.one("g h"))
	case m.chance(3):
		s = m.put(m.one("struct union enum"), m.one("g h"))
		m.qualify()
	default:
		s = m.put(m.one("int char short long signed unsigned void"))
		for m.chance(3) {
			s += " " + m.put(m.one("int char short long signed unsigned void"))
		}
		m.qualify()
	}
	stars := 0
	for hasStars && m.chance(2) {
		stars++
		m.put("*")
		if m.chance(4) {
			m.put(m.one("const volatile"))
		}
	}
	n := m.node(api.OType, s, from)
	n.N = stars
	return n
}

func (m *maker) qualify() {
	for m.chance(5) {
		m.put(m.one("const volatile"))
	}
}

func (m *maker) anyKind(hasStars bool) api.Node {
	return m.kind(hasStars, len(m.typedefs) > 0 && m.chance(4), m.chance(3))
}

func (m *maker) declared(mayBeSet bool) api.Node {
	from := m.place()
	stars := 0
	for m.chance(3) {
		stars++
		m.put("*")
	}
	name := m.name()
	parts := m.sizes()
	if mayBeSet && m.chance(3) {
		m.put("=")
		begin := m.place()
		part := m.initializer()
		parts = append(parts, m.node(api.OInit, "", begin, part))
	}
	n := m.node(api.OVar, name, from, parts...)
	n.N = stars
	return n
}

func (m *maker) sizes() []api.Node {
	var sizes []api.Node
	for m.chance(6) {
		from := m.place()
		m.put("[")
		var parts []api.Node
		if m.chance(2) {
			parts = append(parts, m.value(comma))
		}
		m.put("]")
		sizes = append(sizes, m.node(api.OSize, "", from, parts...))
	}
	return sizes
}

func (m *maker) initializer() api.Node {
	if !m.isShallow() || !m.chance(3) {
		return m.value(assign)
	}
	m.depth++
	defer func() { m.depth-- }()
	from := m.place()
	m.put("{")
	var parts []api.Node
	for i := range m.r.Intn(4) {
		if i > 0 {
			m.put(",")
		}
		parts = append(parts, m.initializer())
	}
	if len(parts) > 0 && m.chance(3) {
		m.put(",")
	}
	m.put("}")
	return m.node(api.OList, "", from, parts...)
}

// declaration makes words, a type and names.
func (m *maker) declaration(hasWords, mayBeSet bool) api.Node {
	from := m.place()
	words := m.declarationWords(hasWords)
	kind := m.anyKind(false)
	if hasWords {
		words = m.moveWords(words, &kind)
	}
	parts := []api.Node{kind, m.declared(mayBeSet)}
	for m.chance(3) {
		m.attribute()
		m.put(",")
		parts = append(parts, m.declared(mayBeSet))
	}
	m.attribute()
	m.put(";")
	return m.node(api.ODecl, strings.Join(words, " "), from, parts...)
}

func (m *maker) declarationWords(hasWords bool) []string {
	var words []string
	for hasWords && m.chance(4) {
		words = append(words, m.put(m.one("static extern const volatile")))
	}
	return words
}

// moveWords gives the words what stands at the beginning of a type behind them, as they take all they can.
func (m *maker) moveWords(words []string, kind *api.Node) []string {
	for m.words[kind.From] == "const" || m.words[kind.From] == "volatile" {
		words = append(words, m.words[kind.From])
		kind.From++
	}
	return words
}

func (m *maker) last() string {
	if len(m.words) == 0 {
		return ""
	}
	return m.words[len(m.words)-1]
}

// attribute perhaps puts an attribute behind a name or bracket. It belongs to no node.
func (m *maker) attribute() {
	if strings.Contains("])abcdef", m.last()) && m.chance(5) {
		m.put("PACKED")
		if m.chance(2) {
			m.put("(", "int", "]", ")")
		}
	}
}

// export perhaps puts an attribute ahead of a declaration or function.
func (m *maker) export() {
	if (m.last() == "" || m.last() == ";" || m.last() == "}") && m.chance(5) {
		m.put("EXPORT")
	}
}

func (m *maker) block() api.Node {
	from := m.place()
	m.put("{")
	var parts []api.Node
	for m.isShallow() && m.r.Intn(3) > 0 {
		if m.chance(6) {
			parts = append(parts, m.useAndStatement()...)
		} else {
			parts = append(parts, m.statement(false))
		}
	}
	if m.chance(4) {
		parts = append(parts, m.lastInBlock())
	}
	m.put("}")
	return m.node(api.OBlock, "", from, parts...)
}

// useAndStatement makes a macro's use as a statement, and a statement that may stand behind it. In a block the use
// stands behind a statement, a brace or a colon, as it has to.
func (m *maker) useAndStatement() []api.Node {
	from := m.place()
	use := m.leaf(api.EName, m.one("LOCK TRACE_1"))
	hasCall := m.chance(2)
	if hasCall {
		use = m.callOf(use, from)
	}
	macro := m.node(api.OMacro, "", from, use)
	next := m.place()
	switch {
	case m.chance(3):
		m.put("break", ";")
		return []api.Node{macro, m.node(api.OBreak, "", next)}
	case m.chance(2):
		m.put("++")
		name := m.leaf(api.EName, "a")
		value := m.node(api.EUnary, "++", next, name)
		m.put(";")
		return []api.Node{macro, m.node(api.OExpr, "", next, value)}
	case hasCall:
		return []api.Node{macro, m.declaration(true, true)}
	}
	return []api.Node{macro, m.block()}
}

// lastInBlock makes what only stands at a block's end.
func (m *maker) lastInBlock() api.Node {
	from := m.place()
	switch m.r.Intn(4) {
	case 0:
		use := m.leaf(api.EName, "DONE")
		return m.node(api.OMacro, "", from, use)
	case 1:
		m.put("default", ":")
		return m.node(api.ODefault, "", from, m.lastMarked())
	case 2:
		m.put("case")
		value := m.value(comma)
		m.put(":")
		return m.node(api.OCase, "", from, value, m.lastMarked())
	}
	name := m.name()
	m.put(":")
	return m.node(api.OLabel, name, from, m.lastMarked())
}

func (m *maker) lastMarked() api.Node {
	if m.chance(2) {
		return m.lastInBlock()
	}
	return m.node(api.OEmpty, "", m.place())
}

// statement makes one. A closed one does not end with an if that an else behind it would belong to.
func (m *maker) statement(isClosed bool) api.Node {
	m.depth++
	defer func() { m.depth-- }()
	from := m.place()
	kind := m.r.Intn(18)
	if !m.isShallow() {
		kind = 11 + m.r.Intn(7)
	}
	switch kind {
	case 0, 1:
		return m.choice(isClosed)
	case 2, 3:
		return m.forLoop(isClosed)
	case 4:
		m.put("do")
		body := m.statement(false)
		m.put("while")
		test := m.inParens()
		m.put(";")
		return m.node(api.ODo, "", from, body, test)
	case 5:
		op, key := api.OWhile, "while"
		if m.chance(2) {
			op, key = api.OSwitch, "switch"
		}
		m.put(key)
		test := m.inParens()
		return m.node(op, "", from, test, m.statement(isClosed))
	case 6:
		return m.block()
	case 7:
		m.put("case")
		value := m.value(comma)
		m.put(":")
		return m.node(api.OCase, "", from, value, m.statement(isClosed))
	case 8:
		m.put("default", ":")
		return m.node(api.ODefault, "", from, m.statement(isClosed))
	case 9:
		name := m.name()
		m.put(":")
		return m.node(api.OLabel, name, from, m.statement(isClosed))
	case 10:
		each := m.leaf(api.EName, m.one("EACH each"))
		call := m.callOf(each, from)
		return m.node(api.OLoop, "", from, call, m.block())
	}
	return m.simpleStatement(kind)
}

func (m *maker) inParens() api.Node {
	m.put("(")
	n := m.value(comma)
	m.put(")")
	return n
}

func (m *maker) choice(isClosed bool) api.Node {
	from := m.place()
	hasElse := isClosed || m.chance(2)
	m.put("if")
	parts := []api.Node{m.inParens(), m.statement(hasElse)}
	if hasElse {
		m.put("else")
		parts = append(parts, m.statement(isClosed))
	}
	return m.node(api.OIf, "", from, parts...)
}

func (m *maker) forLoop(isClosed bool) api.Node {
	from := m.place()
	m.put("for", "(")
	begin := m.place()
	var first, test, last api.Node
	if m.chance(3) {
		declaration := m.declaration(true, true)
		first = m.node(api.OFirst, "", begin, declaration)
	} else {
		first = m.perhaps(api.OFirst)
		m.put(";")
	}
	test = m.perhaps(api.OTest)
	m.put(";")
	last = m.perhaps(api.OLast)
	m.put(")")
	return m.node(api.OFor, "", from, first, test, last, m.statement(isClosed))
}

// perhaps makes a node that may have an expression.
func (m *maker) perhaps(op int) api.Node {
	from := m.place()
	if m.chance(2) {
		return m.node(op, "", from)
	}
	return m.node(op, "", from, m.plainValue())
}

// plainValue makes an expression that does not begin as a declaration would.
func (m *maker) plainValue() api.Node {
	from := m.place()
	for {
		n := m.value(comma)
		if len(m.words) <= from+1 || m.words[from+1] != "*" {
			return n
		}
		m.words = m.words[:from]
	}
}

func (m *maker) simpleStatement(kind int) api.Node {
	from := m.place()
	switch kind {
	case 11:
		m.export()
		return m.declaration(true, true)
	case 12:
		m.put("goto")
		name := m.name()
		m.put(";")
		return m.node(api.OGoto, name, from)
	case 13:
		m.put("return", ";")
		return m.node(api.OReturn, "", from)
	case 14:
		m.put("return")
		value := m.value(comma)
		m.put(";")
		return m.node(api.OReturn, "", from, value)
	case 15:
		m.put("continue", ";")
		return m.node(api.OContinue, "", from)
	case 16:
		m.put(";")
		return m.node(api.OEmpty, "", from)
	}
	value := m.plainValue()
	m.put(";")
	return m.node(api.OExpr, "", from, value)
}

// item makes one that may stand behind the last word.
func (m *maker) item() api.Node {
	kind := m.r.Intn(10)
	if m.last() == ")" || m.last() == "}" && kind == 7 {
		kind = m.r.Intn(7)
	}
	from := m.place()
	switch kind {
	case 0:
		m.put("typedef")
		kind := m.anyKind(false)
		name := m.declared(false)
		m.words[name.From+name.N] = "g" + m.words[name.From+name.N]
		name.S = m.words[name.From+name.N]
		m.typedefs = append(m.typedefs, name.S)
		m.attribute()
		m.put(";")
		return m.node(api.OTypedef, "", from, kind, name)
	case 1:
		return m.structure()
	case 2, 3, 4:
		return m.function()
	case 5, 6:
		m.export()
		return m.declaration(true, true)
	case 7:
		m.put(";")
		return m.node(api.OEmpty, "", from)
	case 8:
		use := m.leaf(api.EName, "MODULE")
		call := m.callOf(use, from)
		if m.chance(2) {
			m.put(";")
		}
		return m.node(api.OMacro, "", from, call)
	}
	m.put(strings.Fields([]string{
		"a b c ;", "@ ( ; ) ;", "int f ( int a ) ;", "enum g { a , b } ;", "struct g { int a : 3 ; } ;", "}", "} ;", ") ;", "{ int a ; }", "a = 1 ;", "typedef int a = 1 ;",
		"int a ( ) { a b c ; }", "if ( a ) b ;", "@ [ { } @ }", "int a = ( ; ) ; ", "int ( * a ) ( ) ;",
	}[m.r.Intn(16)])...)
	return m.node(api.ORaw, "", from)
}

func (m *maker) structure() api.Node {
	m.export()
	from := m.place()
	m.put("struct")
	name := m.name()
	m.put("{")
	var fields []api.Node
	for m.r.Intn(3) > 0 {
		fields = append(fields, m.declaration(false, false))
	}
	m.put("}", ";")
	return m.node(api.OStruct, name, from, fields...)
}

func (m *maker) function() api.Node {
	m.export()
	from := m.place()
	words := m.declarationWords(true)
	kind := m.anyKind(true)
	words = m.moveWords(words, &kind)
	parts := []api.Node{kind, m.leaf(api.EName, m.one("f g"))}
	m.put("(")
	parts = append(parts, m.params()...)
	m.put(")")
	if m.chance(5) {
		m.put("PURE")
	}
	parts = append(parts, m.block())
	return m.node(api.OFunc, strings.Join(words, " "), from, parts...)
}

func (m *maker) params() []api.Node {
	if m.chance(4) {
		m.put([][]string{{}, {"void"}}[m.r.Intn(2)]...)
		return nil
	}
	var params []api.Node
	for len(params) == 0 || m.chance(2) {
		if len(params) > 0 {
			m.put(",")
		}
		from := m.place()
		parts := []api.Node{m.anyKind(true)}
		if m.words[from] == "void" || m.chance(2) {
			begin := m.place()
			name := m.name()
			parts = append(parts, m.node(api.OVar, name, begin, m.sizes()...))
		}
		params = append(params, m.node(api.OParam, "", from, parts...))
	}
	if m.chance(4) {
		m.put(",", "...")
	}
	return params
}

func (m *maker) file() api.Node {
	root := api.Node{Op: api.OFile}
	for range m.r.Intn(8) {
		root.L = append(root.L, m.item())
	}
	if len(root.L) > 0 {
		root.From = root.L[0].From
		root.To = root.L[len(root.L)-1].To
	}
	return root
}

// text writes the words with what is not seen between them.
func (m *maker) text() string {
	blanks := []string{" ", "\n", " /* } ; */ ", " // {\n", "\n#pragma }\n", "\n#define a b\n"}
	if len(m.words) < 2000 {
		blanks = append(blanks, " ", " ", "\t", "\\\n", " ", "\n#if A\n#else\n} ; int (\n#endif\n", "\n#ifdef a\n#endif\n")
	}
	var text strings.Builder
	groups := 0
	for _, word := range m.words {
		blank := blanks[m.r.Intn(len(blanks))]
		if strings.Contains(blank, "#if") {
			groups++
			if groups > api.MaxGroups {
				blank = " "
			}
		}
		text.WriteString(blank + word)
	}
	return text.String()
}

// placed returns a tree with places in the words exchanged for those in the tokens.
func placed(n api.Node, view []int) api.Node {
	from, to := n.From, n.To
	n.From, n.To = view[from], view[from]
	if to > from {
		n.To = view[to-1] + 1
	}
	parts := n.L
	n.L = nil
	for _, part := range parts {
		n.L = append(n.L, placed(part, view))
	}
	return n
}

// TestTreesAsMade holds trees against those that the maker of their texts knows.
func TestTreesAsMade(t *testing.T) {
	r := rand.New(rand.NewSource(5))
	ops := map[int]int{}
	for range 1500 {
		m := &maker{r: r}
		want := m.file()
		text := m.text()
		_, view, got := file(t, text)
		if len(view) != len(m.words)+1 {
			t.Fatalf("%q: %d tokens; want %d", text, len(view), len(m.words)+1)
		}
		want = placed(want, view)
		if len(want.L) == 0 {
			want.From, want.To = view[0], view[0]
		}
		if levels(want) > api.MaxNest+1 {
			t.Fatalf("the maker went too deep: %d", levels(want))
		}
		if !alike(got, want) {
			t.Fatalf("%q:\n got %s\n     %s\nwant %s\n     %s", strings.Join(m.words, " "), show(got), showPlaced(got), show(want), showPlaced(want))
		}
		countOps(want, ops)
	}
	for op, name := range opNames {
		if ops[op] < 20 {
			t.Errorf("only %d of %s", ops[op], name)
		}
	}
}
