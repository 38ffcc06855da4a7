package parse_test

import "testing"

func TestStatements(t *testing.T) {
	wantBody(t, [][2]string{
		{"", ""}, {";", "empty"}, {"{}", "block"}, {"{;{}}a;", "block{empty block} expr{name:a}"},
		{"if(a)b;", "if{name:a expr{name:b}}"}, {"if(a)b;else c;", "if{name:a expr{name:b} expr{name:c}}"},
		{"if(a)if(b)c;else d;", "if{name:a if{name:b expr{name:c} expr{name:d}}}"},
		{"if(a){if(b)c;}else d;", "if{name:a block{if{name:b expr{name:c}}} expr{name:d}}"},
		{"if(a)while(b)if(c);else;else;", "if{name:a while{name:b if{name:c empty empty}} empty}"},
		{"if(a)b;else if(c)d;else;", "if{name:a expr{name:b} if{name:c expr{name:d} empty}}"},
		{"if(a,b)int x;", "if{comma{name:a name:b} decl{type:int var:x}}"},
		{"while(a)b;", "while{name:a expr{name:b}}"}, {"while(a);", "while{name:a empty}"},
		{"do a;while(b);", "do{expr{name:a} name:b}"}, {"do{}while(a,b);c;", "do{block comma{name:a name:b}} expr{name:c}"}, {"do while(a);while(b);", "do{while{name:a empty} name:b}"},
		{"for(;;);", "for{first test last empty}"}, {"for(a;b;c)d;", "for{first{name:a} test{name:b} last{name:c} expr{name:d}}"},
		{"for(a=1,b=2;;c,d){}", "for{first{comma{assign:={name:a number:1} assign:={name:b number:2}}} test last{comma{name:c name:d}} block}"},
		{"for(int a=1,*b;a;);", "for{first{decl{type:int var:a{init{number:1}} var:b^1}} test{name:a} last empty}"},
		{"for(static const T a;;);", "for{first{decl:static const{type:T var:a}} test last empty}"}, {"for(T*a;;);", "for{first{decl{type:T var:a^1}} test last empty}"},
		{"for(T1 a;;);", "for{first{decl{type:T1 var:a}} test last empty}"}, {"for(;T*a;);", "for{first test{binary:*{name:T name:a}} last empty}"},
		{"switch(a){case 1:b;case 2:case 3:break;default:c;}", "switch{name:a block{case{number:1 expr{name:b}} case{number:2 case{number:3 break}} default{expr{name:c}}}}"},
		{"switch(a)case 1:;", "switch{name:a case{number:1 empty}}"},
		{"switch(a){case b?c:d:;}", "switch{name:a block{case{cond{name:b name:c name:d} empty}}}"}, {"case a,b=c:;", "case{comma{name:a assign:={name:b name:c}} empty}"},
		{"case 1:", "case{number:1 empty}"}, {"default:", "default{empty}"}, {"x:", "label:x{empty}"}, {"x:y:default:", "label:x{label:y{default{empty}}}"}, {"x:;", "label:x{empty}"},
		{"{x:}y;", "block{label:x{empty}} expr{name:y}"}, {"x:int y;", "label:x{decl{type:int var:y}}"}, {"if(a)x:b;else c;", "if{name:a label:x{expr{name:b}} expr{name:c}}"},
		{"goto x;", "goto:x"}, {"return;", "return"}, {"return a,b;", "return{comma{name:a name:b}}"}, {"break;continue;", "break continue"},
		{"a,b;", "expr{comma{name:a name:b}}"}, {"f(a)[1];", "expr{index{call{name:f name:a} number:1}}"},
	})
}

func TestUnreadableStatements(t *testing.T) {
	for _, s := range []string{
		"a", "a b c;", "if a;", "if();", "if(a)", "if(a)else b;", "if(a)b else c;", "else;", "if(a);else;else;", "while()a;", "while(a)", "do a while(b);", "do a;", "do a;while(b)",
		"do;while();", "for(;);", "for(;;;);", "for(;;)", "for(int a);", "for(int a,b);", "for(a,int b;;);", "for(;int a;);", "for();", "switch(a)", "switch{}", "case:a;",
		"case 1", "case 1;", "default;", "default a:b;", "goto;", "goto 1;", "goto if;", "goto a", "return", "return a", "return int;", "break", "break a;", "continue 1;",
		"1:a;", "if:a;", "x::a;", "int;", "int x", "int x y;", "int 1;", "struct S{int a;};", "struct S;", "typedef int T;", "static;", "static a;", "static a=1;",
		"const;", "T1;", "T1=1;", "T1(a);", "T1+1;", "a b(c);", "int f(int a);", "int g(){}", "{", "@;", "#;", ";'", "()", "a)(", ",;", "...;", "int*const x;", "T1*const x;", "T2 x y;",
		"for(static u const x;;);", "static u const x;", "case 1:else;", "x:else;", "asm(\"a\":\"b\");", "(int)x=1",
	} {
		wantBody(t, [][2]string{{s, "raw"}})
	}
}

func TestTypesInBlocks(t *testing.T) {
	wantBody(t, [][2]string{
		{"T x;", "decl{type:T var:x}"}, {"T x=1,*y,z[2];", "decl{type:T var:x{init{number:1}} var:y^1 var:z{size{number:2}}}"},
		{"T*x;", "decl{type:T var:x^1}"}, {"T**x=1;", "decl{type:T var:x^2{init{number:1}}}"}, {"T*x,y;", "decl{type:T var:x^1 var:y}"}, {"T*x[2];", "decl{type:T var:x^1{size{number:2}}}"},
		{"a*b+c;", "expr{binary:+{binary:*{name:a name:b} name:c}}"}, {"a**b(c);", "expr{binary:*{name:a unary:*{call{name:b name:c}}}}"}, {"a*1;", "expr{binary:*{name:a number:1}}"},
		{"a*b==c;", "expr{binary:=={binary:*{name:a name:b} name:c}}"}, {"a*b.c;", "expr{binary:*{name:a member:. c{name:b}}}"}, {"a=b*c;", "expr{assign:={name:a binary:*{name:b name:c}}}"},
		{"a;", "expr{name:a}"}, {"a*(b);", "expr{binary:*{name:a paren{name:b}}}"}, {"a[1];", "expr{index{name:a number:1}}"}, {"a&b;", "expr{binary:&{name:a name:b}}"},
		{"T1 x;", "decl{type:T1 var:x}"}, {"T1*x;", "decl{type:T1 var:x^1}"}, {"T1 const*x;", "decl{type:T1 var:x^1}"}, {"T const x;", "raw"}, {"const T x;", "decl:const{type:T var:x}"},
		{"static T*x;", "decl:static{type:T var:x^1}"}, {"static T const x;", "raw"}, {"static T1 const x;", "decl:static{type:T1 var:x}"}, {"static T1 x;", "decl:static{type:T1 var:x}"},
		{"int x;", "decl{type:int var:x}"}, {"unsigned*x;", "decl{type:unsigned var:x^1}"}, {"struct S x;", "decl{type:struct S var:x}"}, {"union U*x;enum E y;", "decl{type:union U var:x^1} decl{type:enum E var:y}"},
		{"T1:x;", "label:T1{expr{name:x}}"}, {"volatile int x=y;", "decl:volatile{type:int var:x{init{name:y}}}"}, {"int const x;", "decl{type:int var:x}"}, {"x t;", "decl{type:x var:t}"},
	})
	want(t, [][2]string{
		{"int f(){T const x;}typedef int T;int g(){T const x;}", "raw typedef{type:int var:T} func{type:int name:g block{decl{type:T var:x}}}"},
		{"typedef int T,U;int g(){T const x;}", "raw raw"},
		{"typedef foo T[2];int T;int g(){T=1;}", "typedef{type:foo var:T{size{number:2}}} decl{type:int var:T} raw"},
		{"int f(){T x;}", "func{type:int name:f block{decl{type:T var:x}}}"},
	})
}

func TestMacroStatements(t *testing.T) {
	wantBody(t, [][2]string{
		{"EACH(x){f();}", "loop{call{name:EACH name:x} block{expr{call{name:f}}}}"}, {"each(x,y){}", "loop{call{name:each name:x name:y} block}"}, {"a;each(){}b;", "expr{name:a} loop{call{name:each} block} expr{name:b}"},
		{"if(a)each(b){}else each(c){}", "if{name:a loop{call{name:each name:b} block} loop{call{name:each name:c} block}}"}, {"do each(b){}while(c);", "do{loop{call{name:each name:b} block} name:c}"},
		{"x:each(b){}", "label:x{loop{call{name:each name:b} block}}"}, {"each(int a){}", "raw"}, {"each{}", "raw"}, {"each(a)(b){}", "raw"}, {"T1(a){}", "loop{call{name:T1 name:a} block}"},
		{"DONE(x)y=1;", "macro{call{name:DONE name:x}} expr{assign:={name:y number:1}}"}, {"DONE", "macro{name:DONE}"}, {"DONE return;", "macro{name:DONE} return"}, {"DONE()", "macro{call{name:DONE}}"},
		{"a;DONE(x)", "expr{name:a} macro{call{name:DONE name:x}}"}, {"DONE{}", "macro{name:DONE} block"}, {"DONE(x)*y=1;", "macro{call{name:DONE name:x}} expr{assign:={unary:*{name:y} number:1}}"},
		{"DONE(x)++y;", "macro{call{name:DONE name:x}} expr{unary:++{name:y}}"}, {"DONE if(a);", "macro{name:DONE} if{name:a empty}"}, {"DONE(x)int y;", "macro{call{name:DONE name:x}} decl{type:int var:y}"},
		{"if(a);else DONE(x)b;", "if{name:a empty macro{call{name:DONE name:x}}} expr{name:b}"}, {"do STOP while(a);", "raw"}, {"if(a)STOP else b;", "raw"},
		{"x:DONE", "label:x{macro{name:DONE}}"}, {"DONE:", "label:DONE{empty}"}, {"case 1:DONE break;", "case{number:1 macro{name:DONE}} break"},
		{"DONE(x);", "expr{call{name:DONE name:x}}"}, {"DONE;", "expr{name:DONE}"}, {"DONE(int)y;", "raw"}, {"DONE x;", "decl{type:DONE var:x}"}, {"I++;", "raw"}, {"DONE*x;", "decl{type:DONE var:x^1}"},
		{"done(x)y;", "raw"}, {"a=MAX;", "expr{assign:={name:a name:MAX}}"}, {"DONE(x)[1]=2;", "expr{assign:={index{call{name:DONE name:x} number:1} number:2}}"},
		{"LOCK(a)LOCK(b)c;", "raw"}, {"LOCK(a);LOCK(b)c;", "expr{call{name:LOCK name:a}} macro{call{name:LOCK name:b}} expr{name:c}"},
	})
}
