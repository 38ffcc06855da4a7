package parse_test

import (
	"strings"
	"testing"
)

func TestPrimaries(t *testing.T) {
	wantValue(t, [][2]string{
		{"a", "name:a"}, {"1", "number:1"}, {"1.5e+3", "number:1.5e+3"}, {"'a'", "char:'a'"}, {"\"a\"", "string:\"a\""}, {"\"a\" \"b\"/**/\"\"", "string:\"a\" \"b\" \"\""},
		{"(a)", "paren{name:a}"}, {"((a,b))", "paren{paren{comma{name:a name:b}}}"}, {"f()", "call{name:f}"}, {"f(a,b=1,(c,d))", "call{name:f name:a assign:={name:b number:1} paren{comma{name:c name:d}}}"},
		{"f(a)(b)", "call{call{name:f name:a} name:b}"}, {"a[b]", "index{name:a name:b}"}, {"a[b,c][1]", "index{index{name:a comma{name:b name:c}} number:1}"},
		{"a.b->c", "member:-> c{member:. b{name:a}}"}, {"a++--", "post:--{post:++{name:a}}"}, {"(a)(b)", "call{paren{name:a} name:b}"}, {"\"a\"[1]", "index{string:\"a\" number:1}"},
		{"1(2).c", "member:. c{call{number:1 number:2}}"}, {"'a' 'b'", "raw"}, {"f(,)", "raw"}, {"f(a,)", "raw"}, {"f(a;b)", "raw"}, {"f(a", "raw"}, {"a[]", "raw"}, {"a.1", "raw"},
		{"a.if", "raw"}, {"a->(b)", "raw"}, {"()", "raw"}, {"(a", "raw"}, {"(a]", "raw"}, {"a b", "raw"}, {"1 a", "raw"}, {"if", "raw"}, {"f(int)", "raw"}, {"@", "raw"}, {"a@b", "raw"}, {"#a", "raw"}, {"{1}", "raw"},
	})
}

func TestUnary(t *testing.T) {
	for _, sign := range []string{"!", "~", "-", "+", "*", "&", "++", "--"} {
		wantValue(t, [][2]string{
			{sign + "a", "unary:" + sign + "{name:a}"}, {sign + " " + sign + " a", "unary:" + sign + "{unary:" + sign + "{name:a}}"},
			{sign + "a[1]++", "unary:" + sign + "{post:++{index{name:a number:1}}}"}, {sign + "(int)a", "unary:" + sign + "{cast{type:int name:a}}"},
			{"(int)" + sign + "a", "cast{type:int unary:" + sign + "{name:a}}"}, {sign, "raw"}, {sign + "a b", "raw"},
		})
	}
	wantValue(t, [][2]string{
		{"-a*b", "binary:*{unary:-{name:a} name:b}"}, {"- -a- -b", "binary:-{unary:-{unary:-{name:a}} unary:-{name:b}}"}, {"-a.b", "unary:-{member:. b{name:a}}"},
		{"sizeof a", "unary:sizeof{name:a}"}, {"sizeof a+1", "binary:+{unary:sizeof{name:a} number:1}"}, {"sizeof(a)", "unary:sizeof{paren{name:a}}"}, {"sizeof(a)[1]", "unary:sizeof{index{paren{name:a} number:1}}"},
		{"sizeof sizeof-a", "unary:sizeof{unary:sizeof{unary:-{name:a}}}"}, {"sizeof(int)", "sizeof{type:int}"}, {"sizeof(int)*2", "binary:*{sizeof{type:int} number:2}"}, {"-sizeof(int)", "unary:-{sizeof{type:int}}"},
		{"sizeof(const struct S volatile*const*)", "sizeof{type:struct S^2}"}, {"sizeof(T)", "unary:sizeof{paren{name:T}}"}, {"sizeof(T*)", "sizeof{type:T^1}"}, {"sizeof(T1)", "sizeof{type:T1}"}, {"sizeof(T1**)", "sizeof{type:T1^2}"},
		{"sizeof sizeof(int)", "unary:sizeof{sizeof{type:int}}"}, {"(int)sizeof(int)", "cast{type:int sizeof{type:int}}"},
		{"sizeof(int)[1]", "raw"}, {"sizeof(int)a", "raw"}, {"sizeof(int)++", "raw"}, {"sizeof(int", "raw"}, {"sizeof(int a)", "raw"}, {"sizeof(T1+1)", "raw"}, {"sizeof int", "raw"}, {"sizeof()", "raw"}, {"sizeof", "raw"},
		{"sizeof(const T)", "raw"}, {"sizeof(const T*)", "sizeof{type:T^1}"}, {"sizeof(int[2])", "raw"}, {"sizeof(int)(a)", "raw"}, {"sizeof(T const*)", "raw"},
	})
}

func TestCasts(t *testing.T) {
	wantValue(t, [][2]string{
		{"(int)a", "cast{type:int name:a}"}, {"(int)(char)a", "cast{type:int cast{type:char name:a}}"}, {"(int)a.b++", "cast{type:int post:++{member:. b{name:a}}}"}, {"(int)a+b", "binary:+{cast{type:int name:a} name:b}"},
		{"(int)(a)", "cast{type:int paren{name:a}}"}, {"(unsigned long)1", "cast{type:unsigned long number:1}"}, {"(struct S*)a", "cast{type:struct S^1 name:a}"}, {"(enum E)a", "cast{type:enum E name:a}"},
		{"(const volatile int)a", "cast{type:int name:a}"}, {"(int const*volatile*)a", "cast{type:int^2 name:a}"}, {"(T*)a", "cast{type:T^1 name:a}"}, {"(T***)-a", "cast{type:T^3 unary:-{name:a}}"},
		{"(T1)a", "cast{type:T1 name:a}"}, {"(T1)(a)", "cast{type:T1 paren{name:a}}"}, {"(T1*const)a", "cast{type:T1^1 name:a}"}, {"(T)(a)", "call{paren{name:T} name:a}"}, {"(T)-a", "binary:-{paren{name:T} name:a}"},
		{"(a*b)", "paren{binary:*{name:a name:b}}"}, {"(T2)&a", "cast{type:T2 unary:&{name:a}}"}, {"a=(int)b", "assign:={name:a cast{type:int name:b}}"},
		{"(T)a", "raw"}, {"(T*const)a", "raw"}, {"(const T)a", "raw"}, {"(T1 a)", "raw"}, {"(T1+a)", "raw"}, {"(T1)", "raw"}, {"(int)", "raw"}, {"(int", "raw"}, {"(int a)b", "raw"}, {"(int){1}", "raw"},
		{"(int[2])a", "raw"}, {"(static int)a", "raw"}, {"(int)=a", "raw"}, {"(int*a)", "raw"}, {"(struct)a", "raw"}, {"(T*)", "raw"}, {"(int)a=b", "assign:={cast{type:int name:a} name:b}"},
	})
}

func TestLevelsOfSigns(t *testing.T) {
	levels := []string{"||", "&&", "|", "^", "&", "== !=", "< <= > >=", "<< >>", "+ -", "* / %"}
	for i, loose := range levels {
		for j, tight := range levels {
			for _, x := range strings.Fields(loose) {
				for _, y := range strings.Fields(tight) {
					left := "binary:" + y + "{binary:" + x + "{name:a name:b} name:c}"
					if i < j {
						left = "binary:" + x + "{name:a binary:" + y + "{name:b name:c}}"
					}
					wantValue(t, [][2]string{{"a" + x + "b" + y + "c", left}})
				}
			}
		}
	}
	wantValue(t, [][2]string{
		{"a-b-c-d", "binary:-{binary:-{binary:-{name:a name:b} name:c} name:d}"}, {"a-(b-c)", "binary:-{name:a paren{binary:-{name:b name:c}}}"}, {"a<b<c", "binary:<{binary:<{name:a name:b} name:c}"},
		{"a||b&&c|d^e&f==g<h<<i+j*k", "binary:||{name:a binary:&&{name:b binary:|{name:c binary:^{name:d binary:&{name:e binary:=={name:f binary:<{name:g binary:<<{name:h binary:+{name:i binary:*{name:j name:k}}}}}}}}}}"},
		{"a*b+c<<d<e==f&g^h|i&&j||k", "binary:||{binary:&&{binary:|{binary:^{binary:&{binary:=={binary:<{binary:<<{binary:+{binary:*{name:a name:b} name:c} name:d} name:e} name:f} name:g} name:h} name:i} name:j} name:k}"},
		{"a+", "raw"}, {"+*a", "unary:+{unary:*{name:a}}"}, {"a/ *b", "binary:/{name:a unary:*{name:b}}"}, {"*a/", "raw"}, {"a!b", "raw"}, {"a~b", "raw"}, {"a...b", "raw"},
	})
}

func TestLooseExpressions(t *testing.T) {
	for _, sign := range strings.Fields("= += -= *= /= %= &= |= ^= <<= >>=") {
		wantValue(t, [][2]string{
			{"a" + sign + "b", "assign:" + sign + "{name:a name:b}"}, {"a" + sign + "b=c", "assign:" + sign + "{name:a assign:={name:b name:c}}"}, {"a=b" + sign + "c", "assign:={name:a assign:" + sign + "{name:b name:c}}"},
			{"a+b" + sign + "c?d:e", "assign:" + sign + "{binary:+{name:a name:b} cond{name:c name:d name:e}}"}, {"a" + sign + "b,c", "comma{assign:" + sign + "{name:a name:b} name:c}"},
			{sign + "a", "raw"}, {"a" + sign, "raw"},
		})
	}
	wantValue(t, [][2]string{
		{"a,b,c", "comma{name:a name:b name:c}"}, {"a,(b,c)", "comma{name:a paren{comma{name:b name:c}}}"}, {"a?b:c", "cond{name:a name:b name:c}"}, {"a?b:c?d:e", "cond{name:a name:b cond{name:c name:d name:e}}"},
		{"a?b?c:d:e", "cond{name:a cond{name:b name:c name:d} name:e}"}, {"a?b,c:d,e", "comma{cond{name:a comma{name:b name:c} name:d} name:e}"}, {"a?b=c:d", "cond{name:a assign:={name:b name:c} name:d}"},
		{"a?b:c=d", "assign:={cond{name:a name:b name:c} name:d}"}, {"a=b?c:d", "assign:={name:a cond{name:b name:c name:d}}"}, {"a||b?c:d||e", "cond{binary:||{name:a name:b} name:c binary:||{name:d name:e}}"},
		{"-a=b", "assign:={unary:-{name:a} name:b}"}, {"1=2", "assign:={number:1 number:2}"}, {"a=b?c:d=e", "assign:={name:a assign:={cond{name:b name:c name:d} name:e}}"},
		{"a?b", "raw"}, {"a?:b", "raw"}, {"a?b:", "raw"}, {"a:b", "raw"}, {",a", "raw"}, {"a,", "raw"}, {"a,,b", "raw"}, {"?a:b", "raw"},
	})
}
