package cond

// operator is an operator between two values. One of a higher level binds more tightly.
type operator struct {
	level int
	sign  string
	value func(a, b int64) int64
}

// loosest is the least level of an operator.
const loosest = 1

func operators() []operator {
	return []operator{
		{loosest, "||", func(a, b int64) int64 { return oneIf(a != 0 || b != 0) }},
		{2, "&&", func(a, b int64) int64 { return oneIf(a != 0 && b != 0) }},
		{3, "==", func(a, b int64) int64 { return oneIf(a == b) }},
		{3, "!=", func(a, b int64) int64 { return oneIf(a != b) }},
		{4, "<", func(a, b int64) int64 { return oneIf(a < b) }},
		{4, "<=", func(a, b int64) int64 { return oneIf(a <= b) }},
		{4, ">", func(a, b int64) int64 { return oneIf(a > b) }},
		{4, ">=", func(a, b int64) int64 { return oneIf(a >= b) }},
		{5, "+", func(a, b int64) int64 { return a + b }},
		{5, "-", func(a, b int64) int64 { return a - b }},
		{6, "*", func(a, b int64) int64 { return a * b }},
		{6, "/", quotient},
		{6, "%", remainder},
	}
}

// operatorAhead is an operator that stands ahead of its value.
type operatorAhead struct {
	sign  string
	value func(a int64) int64
}

func operatorsAhead() []operatorAhead {
	return []operatorAhead{
		{"!", func(a int64) int64 { return oneIf(a == 0) }},
		{"-", func(a int64) int64 { return -a }},
		{"+", func(a int64) int64 { return a }},
	}
}

func quotient(a, b int64) int64 {
	if b == 0 {
		return 0
	}
	return a / b
}

func remainder(a, b int64) int64 {
	if b == 0 {
		return 0
	}
	return a % b
}

func oneIf(holds bool) int64 {
	if holds {
		return 1
	}
	return 0
}
