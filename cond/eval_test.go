package cond_test

import (
	"math"
	"math/big"
	"math/rand"
	"strconv"
	"strings"
	"testing"

	"smocking/api"
	"smocking/cond"
)

var someDefs = []api.Pair{
	{Name: "A", Value: "1"}, {Name: "B", Value: "-7"}, {Name: "C", Value: "+12"}, {Name: "A", Value: "2"}, {Name: "EMPTY"},
	{Name: "TEXT", Value: "abc"}, {Name: "HEX", Value: "0x10"}, {Name: "ZEROS", Value: "010"}, {Name: "BLANK", Value: " 5"},
	{Name: "MOST", Value: "9223372036854775807"}, {Name: "LEAST", Value: "-9223372036854775808"},
	{Name: "BEYOND", Value: "9223372036854775808"}, {Name: "BELOW", Value: "-9223372036854775809"}, {Name: "PARTS", Value: "1_000"},
	{Name: "LATER", Value: "x"}, {Name: "LATER", Value: "3"}, {Name: "int", Value: "4"}, {Name: "", Value: "5"},
	{Name: "defined", Value: "6"},
}

func TestEval(t *testing.T) {
	for _, c := range []struct {
		s    string
		want int
	}{
		{"0", 0}, {"1", 1}, {"42", 42}, {"007", 7}, {"010", 8}, {"0x10", 16}, {"0xfF", 255}, {"00", 0}, {"0xAbCdEf", 0xabcdef},
		{"1u", 1}, {"1L", 1}, {"1uLlU", 1}, {"0u", 0}, {"0x1ul", 1}, {"017LL", 15}, {"3uuuu", 3},
		{"9223372036854775807", math.MaxInt64}, {"9223372036854775808", math.MinInt64}, {"18446744073709551615", -1},
		{"18446744073709551616", 0}, {"18446744073709551617", 1}, {"0xffffffffffffffff", -1}, {"0x1ffffffffffffffff", -1},
		{"02000000000000000000000", 0}, {"01777777777777777777777", -1}, {"99999999999999999999", 7766279631452241919},
		{"1 + 2", 3}, {"1+2*3", 7}, {"(1+2)*3", 9}, {"10-3-2", 5}, {"100/10/5", 2}, {"7%4%2", 1}, {"2*3%4", 2}, {"2+7%4*2", 8},
		{"7/2", 3}, {"-7/2", -3}, {"-7%2", -1}, {"7%-2", 1}, {"1/0", 0}, {"1%0", 0}, {"0/0", 0}, {"5-1/0", 5},
		{"1<2", 1}, {"2<1", 0}, {"2<2", 0}, {"2<=2", 1}, {"3<=2", 0}, {"2>1", 1}, {"2>2", 0}, {"2>=2", 1}, {"1>=2", 0},
		{"1==1", 1}, {"1==2", 0}, {"1!=2", 1}, {"1!=1", 0}, {"3>2>1", 0}, {"2==2==1", 1}, {"1<2==1", 1}, {"1==1<2", 1},
		{"1==1!=0", 1}, {"1<2+3", 1}, {"-1<0", 1}, {"0xffffffffffffffff<0", 1},
		{"1||0", 1}, {"0||0", 0}, {"5&&6", 1}, {"5&&0", 0}, {"0&&5", 0}, {"1||0&&0", 1}, {"0&&0||1", 1}, {"1&&2==2", 1},
		{"1||1/0", 1}, {"0&&1/0", 0}, {"2||0", 1}, {"0||7", 1},
		{"!0", 1}, {"!5", 0}, {"!!5", 1}, {"-3", -3}, {"- -3", 3}, {"+3", 3}, {"-+-3", 3}, {"!1+1", 1}, {"-2*-3", 6}, {"1- -1", 2},
		{"!A==0", 1}, {"-(1+2)", -3}, {"!(0)", 1}, {"((((7))))", 7}, {"-9223372036854775808", math.MinInt64},
		{"LEAST/-1", math.MinInt64}, {"LEAST%-1", 0}, {"LEAST*-1", math.MinInt64}, {"-LEAST", math.MinInt64}, {"MOST+1", math.MinInt64},
		{"LEAST-1", math.MaxInt64}, {"MOST*2", -2},
		{"A", 1}, {"B", -7}, {"C", 12}, {"A+B", -6}, {"NONE", 0}, {"EMPTY", 0}, {"TEXT", 0}, {"HEX", 0}, {"ZEROS", 10}, {"BLANK", 0},
		{"MOST", math.MaxInt64}, {"LEAST", math.MinInt64}, {"BEYOND", 0}, {"BELOW", 0}, {"PARTS", 0}, {"LATER", 0}, {"!NONE", 1},
		{"defined A", 1}, {"defined NONE", 0}, {"defined(A)", 1}, {"defined ( NONE )", 0}, {"defined EMPTY", 1}, {"defined TEXT", 1},
		{"!defined A", 0}, {"defined A+1", 2}, {"defined A && defined NONE", 0}, {"(defined A)", 1}, {"-defined(A)*3", -3},
		{"defined BEYOND", 1}, {" 1 /* a */ + // b\n 2 \t", 3}, {"1 +\\\n 2", 3}, {"1\n+\n2", 3},
		{strings.Repeat("(", 10000) + "1" + strings.Repeat(")", 10000), 1}, {strings.Repeat("!", 39998) + "0", 0},
		{strings.Repeat("1+", 19999) + "1", 20000},
	} {
		if got, ok := cond.Eval(c.s, someDefs); got != c.want || !ok {
			t.Errorf("Eval(%.60q) = %d, %t; want %d", c.s, got, ok, c.want)
		}
	}
}

func TestEvalOfWhatIsNotAsSaid(t *testing.T) {
	for _, s := range []string{
		"", " ", "/* 1 */", "1 +", "+", "* 1", "1 2", "A B", "1 A", "(1", "1)", "()", "(", ")", "1 + ()", "(1))", "((1)",
		"08", "09u", "0x", "0xu", "0xg", "0X1", "1a", "12f", "1.5", "1.", ".5", "1e5", "1e+5", "0xe+1", "1_0", "1ux", "0b1",
		"'a'", "\"1\"", "\"", "int", "if", "1 + int", "sizeof(int)", "while", "@", "$", "1 @ 2", "#", "1 #", "# 1", "1\n#x",
		"1 & 2", "1 | 2", "1 ^ 2", "~1", "1 << 2", "1 >> 2", "1 ? 2 : 3", "1, 2", "A = 1", "A += 1", "--1", "++A", "A++", "1 ! 2",
		"A(1)", "A()", "1 == == 2", "1 = = 2", "1 < > 2", "& & 1", "1 !", "[1]", "{1}", "A.B", "A->B", "1;",
		"defined", "defined()", "defined(", "defined(A", "defined A)", "defined 1", "defined int", "defined(int)", "defined((A))",
		"defined defined", "defined(defined)", "defined + 1", "defined == 0", "A defined", "defined A B", "defined !A", "defined (A) B",
		"0 && (", "1 || (", "1 || 08", "0 && int", "1 == 08", "08 == 1", "!", "-", "!-",
		strings.Repeat("(", 30000), strings.Repeat("!", 39999), strings.Repeat("1+", 19999), strings.Repeat("1+", 20000) + "1",
		strings.Repeat(" ", api.MaxText) + "1",
	} {
		if got, ok := cond.Eval(s, someDefs); got != 0 || ok {
			t.Errorf("Eval(%.60q) = %d, %t", s, got, ok)
		}
	}
}

// tree makes an expression of at least a level, and tells its value by exact numbers brought back to 64 bits.
func tree(r *rand.Rand, level, depth int) (string, *big.Int) {
	if depth == 0 || level > 7 {
		return leaf(r)
	}
	at := level + r.Intn(9-level)
	switch at {
	case 8:
		s, v := tree(r, 1, depth-1)
		return "(" + s + ")", v
	case 7:
		s, v := tree(r, 7, depth-1)
		return ahead(r, s, v)
	}
	a, x := tree(r, at, depth-1)
	b, y := tree(r, at+1, depth-1)
	signs := strings.Fields([]string{"||", "&&", "== !=", "< <= > >=", "+ -", "* / %"}[at-1])
	sign := signs[r.Intn(len(signs))]
	return a + " " + sign + " " + b, wrap(between(sign, x, y))
}

func leaf(r *rand.Rand) (string, *big.Int) {
	switch r.Intn(5) {
	case 0:
		return "A", big.NewInt(1)
	case 1:
		return "LEAST", big.NewInt(math.MinInt64)
	case 2:
		return "defined B", big.NewInt(1)
	case 3:
		n := r.Uint64()
		return "0x" + strconv.FormatUint(n, 16) + "u", wrap(new(big.Int).SetUint64(n))
	}
	n := r.Intn(5)
	return strconv.Itoa(n), big.NewInt(int64(n))
}

func ahead(r *rand.Rand, s string, v *big.Int) (string, *big.Int) {
	switch r.Intn(3) {
	case 0:
		return "! " + s, truth(v.Sign() == 0)
	case 1:
		return "- " + s, wrap(new(big.Int).Neg(v))
	}
	return "+ " + s, v
}

func between(sign string, x, y *big.Int) *big.Int {
	switch sign {
	case "||":
		return truth(x.Sign() != 0 || y.Sign() != 0)
	case "&&":
		return truth(x.Sign() != 0 && y.Sign() != 0)
	case "==":
		return truth(x.Cmp(y) == 0)
	case "!=":
		return truth(x.Cmp(y) != 0)
	case "<":
		return truth(x.Cmp(y) < 0)
	case "<=":
		return truth(x.Cmp(y) <= 0)
	case ">":
		return truth(x.Cmp(y) > 0)
	case ">=":
		return truth(x.Cmp(y) >= 0)
	case "+":
		return new(big.Int).Add(x, y)
	case "-":
		return new(big.Int).Sub(x, y)
	case "*":
		return new(big.Int).Mul(x, y)
	}
	if y.Sign() == 0 {
		return new(big.Int)
	}
	if sign == "/" {
		return new(big.Int).Quo(x, y)
	}
	return new(big.Int).Rem(x, y)
}

func truth(holds bool) *big.Int {
	if holds {
		return big.NewInt(1)
	}
	return new(big.Int)
}

// wrap brings a number into 64 bits.
func wrap(n *big.Int) *big.Int {
	bits := new(big.Int).And(n, new(big.Int).SetUint64(math.MaxUint64))
	return big.NewInt(int64(bits.Uint64()))
}

func TestEvalOfTrees(t *testing.T) {
	r := rand.New(rand.NewSource(6))
	for range 20000 {
		s, want := tree(r, 1, 5)
		if got, ok := cond.Eval(s, someDefs); !ok || int64(got) != want.Int64() {
			t.Fatalf("Eval(%q) = %d, %t; want %d", s, got, ok, want)
		}
	}
}

func FuzzEval(f *testing.F) {
	f.Add("defined(A) && B * 0x1fu <= !C", "A", "1")
	f.Fuzz(func(t *testing.T, s, name, value string) {
		defs := []api.Pair{{Name: name, Value: value}}
		n, ok := cond.Eval(s, defs)
		if !ok && n != 0 {
			t.Errorf("%q: %d", s, n)
		}
		// An open comment would take the parenthesis in.
		if inside, too := cond.Eval("("+s+"\n)", defs); ok && !strings.Contains(s, "/*") && (inside != n || !too) {
			t.Errorf("%q in parentheses: %d, %t; alone %d", s, inside, too, n)
		}
	})
}
