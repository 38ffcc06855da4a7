package parse_test

import "testing"

func TestTypedefs(t *testing.T) {
	want(t, [][2]string{
		{"typedef int T;", "typedef{type:int var:T}"},
		{"typedef const unsigned long volatile **T[3][];", "typedef{type:unsigned long var:T^2{size{number:3} size}}"},
		{"typedef struct S t;", "typedef{type:struct S var:t}"},
		{"typedef foo t;typedef t*u;", "typedef{type:foo var:t} typedef{type:t var:u^1}"},
		{"typedef int T=1;", "raw"}, {"typedef int T,U;", "raw"}, {"typedef int;", "raw"}, {"typedef T;", "raw"}, {"typedef int T", "raw"},
		{"typedef static int T;", "raw"}, {"static typedef int T;", "raw"}, {"typedef int (*T)(void);", "raw"}, {"typedef struct{int a;}T;", "raw raw"},
		{"typedef int*const T;", "raw"}, {"typedef int int;", "raw"},
	})
}

func TestStructs(t *testing.T) {
	want(t, [][2]string{
		{"struct S{int a;};", "struct:S{decl{type:int var:a}}"},
		{"struct S{};", "struct:S"},
		{"struct S{const T*a,b[N+1],**c;struct S*next;};", "struct:S{decl{type:T var:a^1 var:b{size{binary:+{name:N number:1}}} var:c^2} decl{type:struct S var:next^1}}"},
		{"struct S{unsigned x;enum E e;union U u;};", "struct:S{decl{type:unsigned var:x} decl{type:enum E var:e} decl{type:union U var:u}}"},
		{"struct S{int a:3;};", "raw"}, {"struct S{int a=1;};", "raw"}, {"struct S{static int a;};", "raw"}, {"struct S{int;};", "raw"}, {"struct S{;};", "raw"},
		{"struct S{int a;}", "raw"}, {"struct{int a;};", "raw"}, {"struct S{int a;}b;", "raw raw"}, {"struct S{int a};", "raw"}, {"union S{int a;};", "raw"},
		{"struct S;", "raw"}, {"struct S{struct S{int a;};};", "raw"}, {"static struct S{int a;};", "raw"}, {"struct S{int a;", "raw"},
	})
}

func TestFunctions(t *testing.T) {
	want(t, [][2]string{
		{"int f(int a) { return a + 1; }", "func{type:int name:f param{type:int var:a} block{return{binary:+{name:a number:1}}}}"},
		{"int f(){}", "func{type:int name:f block}"},
		{"void f(void){}", "func{type:void name:f block}"},
		{"static extern const volatile foo f(){}", "func:static extern const volatile{type:foo name:f block}"},
		{"extern static static int f(){}", "func:extern static static{type:int name:f block}"},
		{"static int const*const*volatile f(){}", "func:static{type:int^2 name:f block}"},
		{"struct S*f(struct S*a,enum E b){}", "func{type:struct S^1 name:f param{type:struct S^1 var:a} param{type:enum E var:b} block}"},
		{"t f(a,b*,const c*const d[3][]){}", "func{type:t name:f param{type:a} param{type:b^1} param{type:c^1 var:d{size{number:3} size}} block}"},
		{"int f(void*p,void,...){}", "func{type:int name:f param{type:void^1 var:p} param{type:void} block}"},
		{"int f(void const){}", "func{type:int name:f param{type:void} block}"},
		{"int f(int){}", "func{type:int name:f param{type:int} block}"},
		{"int f(int a,...){}", "func{type:int name:f param{type:int var:a} block}"},
		{"int f(int int){}", "func{type:int name:f param{type:int int} block}"},
		{"int f(...){}", "raw"}, {"int f(int a,){}", "raw"}, {"int f(,int a){}", "raw"}, {"int f(int a,...,int b){}", "raw"}, {"int f(int a...){}", "raw"},
		{"int f(int[3]){}", "raw"}, {"int f(int a=1){}", "raw"}, {"int f(int a b){}", "raw"}, {"int f(static int a){}", "raw"}, {"int f(int(*a)()){}", "raw"},
		{"int f();", "raw"}, {"int f(int a);", "raw"}, {"f(){}", "raw"}, {"int(f)(){}", "raw"}, {"int f(a)int a;{}", "raw raw"}, {"int f(){", "raw"},
		{"int f()x{}", "raw"}, {"int static f(){}", "raw"}, {"f g h(){}", "raw"}, {"int f(){};", "func{type:int name:f block} empty"},
		{"int f(){}}", "func{type:int name:f block} raw"}, {"int f(){a b c;}int x;", "raw decl{type:int var:x}"},
	})
}

func TestDeclarations(t *testing.T) {
	want(t, [][2]string{
		{"int x;", "decl{type:int var:x}"},
		{"foo bar;", "decl{type:foo var:bar}"}, {"foo*bar;", "decl{type:foo var:bar^1}"}, {"double x;", "decl{type:double var:x}"},
		{"long unsigned char short signed void int x;", "decl{type:long unsigned char short signed void int var:x}"},
		{"static const int x;", "decl:static const{type:int var:x}"}, {"const static x y;", "decl:const static{type:x var:y}"},
		{"int const volatile const x;", "decl{type:int var:x}"}, {"struct S const*x;", "decl{type:struct S var:x^1}"},
		{"int a=1,*b=c,d[],e[2]={1,2},**f;", "decl{type:int var:a{init{number:1}} var:b^1{init{name:c}} var:d{size} var:e{size{number:2} init{list{number:1 number:2}}} var:f^2}"},
		{"int a[1,2];", "decl{type:int var:a{size{comma{number:1 number:2}}}}"},
		{"int a={};", "decl{type:int var:a{init{list}}}"},
		{"int a={{},{1,},{{2},3}};", "decl{type:int var:a{init{list{list list{number:1} list{list{number:2} number:3}}}}}"},
		{"int a=b=c;", "decl{type:int var:a{init{assign:={name:b name:c}}}}"},
		{"t x=(t)1;", "raw"}, {"typedef int t;t x=(t)1;", "typedef{type:int var:t} decl{type:t var:x{init{cast{type:t number:1}}}}"},
		{"t x=(u)1;typedef int u;t x=(u)1;", "raw typedef{type:int var:u} decl{type:t var:x{init{cast{type:u number:1}}}}"},
		{"foo bar baz;", "raw"}, {"foo;", "raw"}, {"int;", "raw"}, {"const foo;", "raw"}, {"static;", "raw"}, {"int x", "raw"}, {"int x,;", "raw"}, {"int x y;", "raw"},
		{"int*const x;", "raw"}, {"int x={,};", "raw"}, {"int x={1}y;", "raw raw"}, {"int x={1,,2};", "raw"}, {"int x=;", "raw"}, {"int x=1,2;", "raw"}, {"int x[;];", "raw"}, {"int x={1;", "raw"},
		{"int x:3;", "raw"}, {"int const static x;", "raw"}, {"long double x;", "raw"}, {"unsigned foo x;", "raw"}, {"struct x;", "raw"}, {"struct int x;", "raw"},
		{"enum E{A,B};", "raw"}, {"int(*x)(int);", "raw"}, {"x=1;", "raw"}, {"x*=1;", "raw"}, {"int*;", "raw"}, {"int return;", "raw"}, {"int 1;", "raw"},
	})
}

func TestMacroItems(t *testing.T) {
	want(t, [][2]string{
		{"MODULE(a);", "macro{call{name:MODULE name:a}}"},
		{"MODULE(a)", "macro{call{name:MODULE name:a}}"},
		{"MODULE();;", "macro{call{name:MODULE}} empty"},
		{"int x;MODULE(a,b+1)int y;", "decl{type:int var:x} macro{call{name:MODULE name:a binary:+{name:b number:1}}} decl{type:int var:y}"},
		{"int f(){}MODULE((a,b))MODULE(c)", "func{type:int name:f block} macro{call{name:MODULE paren{comma{name:a name:b}}}} raw"},
		{"MODULE(a)=1;", "macro{call{name:MODULE name:a}} raw"},
		{"MODULE(a)(b);", "macro{call{name:MODULE name:a}} raw"},
		{"MODULE(int x);", "raw"}, {"MODULE(a,);", "raw"}, {"MODULE(a", "raw"}, {"MODULE;", "raw"}, {"module(a);", "raw"}, {"MODULE(a){}", "raw"},
		{"}MODULE(a);", "raw macro{call{name:MODULE name:a}}"}, {"(;MODULE(a);", "raw"}, {"};MODULE(a);", "raw macro{call{name:MODULE name:a}}"},
		{"{int x;MODULE(a);", "raw"}, {"EACH(x){f();}", "raw"}, {"int x;EACH(x){f();}", "decl{type:int var:x} raw"},
	})
}

func TestAttributes(t *testing.T) {
	want(t, [][2]string{
		{"EXPORT int x;", "decl{type:int var:x}"}, {"int x;EXPORT static foo x;", "decl{type:int var:x} decl:static{type:foo var:x}"},
		{"EXPORT int f()PURE{}", "func{type:int name:f block}"}, {"int f()ALIAS(g){}", "raw"}, {"int f()ALIAS(g);", "raw"},
		{"int x ALIAS(g)=1,y[2]PACKED,z ALIAS(h(1),2);", "decl{type:int var:x{init{number:1}} var:y{size{number:2}} var:z}"},
		{"EXPORT typedef int T;", "raw"}, {"typedef int T PACKED;", "typedef{type:int var:T}"}, {"struct S{int a PACKED;}PACKED;", "raw raw"},
		{"struct S{int a PACKED;};", "struct:S{decl{type:int var:a}}"}, {"int f(int a UNUSED,int b){}", "func{type:int name:f param{type:int var:a} param{type:int var:b} block}"},
		{"int f(int a UNUSED){}", "raw"}, {"T MAX;", "empty"}, {"int f(){if(a)STOP;}", "func{type:int name:f block{if{name:a empty}}}"}, {"T FOO(int)(x);", "raw"}, {"EXPORT", "raw"}, {"EXPORT EXTERN int x;", "raw"}, {"typedef foo T;", "raw"},
		{"@ FOO;", "raw"}, {"a FOO;", "raw"}, {"int f(){int x;X y;}", "func{type:int name:f block{decl{type:int var:x} expr{name:y}}}"},
		{"int f(){X y;}", "func{type:int name:f block{decl{type:X var:y}}}"}, {"int f(){return(a)MAX;}", "func{type:int name:f block{return{paren{name:a}}}}"},
		{"int f(){x=a B(c int);}", "func{type:int name:f block{expr{assign:={name:x name:a}}}}"},
	})
}

func TestRaws(t *testing.T) {
	want(t, [][2]string{
		{"", ""}, {";", "empty"}, {";;", "empty empty"}, {"@", "raw"}, {"@;", "raw"}, {"@;@", "raw raw"}, {"@;;", "raw empty"},
		{"@(;);", "raw"}, {"@[;];", "raw"}, {"@{;}", "raw"}, {"@{;};", "raw"}, {"@{};;", "raw empty"}, {"@{}@;", "raw raw"}, {"@{{}@}@{}", "raw raw"}, {"@(}@{}", "raw raw"},
		{"@(;];@", "raw raw"}, {"@{;)@;@;", "raw raw"}, {"@{;);@;", "raw raw"}, {"@({}@;);", "raw"}, {"@({)}@", "raw raw"}, {"@{(}@;)@;", "raw"},
		{")@;@", "raw raw"}, {"]);@", "raw raw"}, {"}@;", "raw raw"}, {"};@;", "raw raw"}, {"}};", "raw raw"}, {"@};;", "raw empty"}, {"@)}@;", "raw raw"}, {")){@;}@", "raw raw"},
		{"@(;", "raw"}, {"@{;", "raw"}, {"@\n#if 0\n;\n#else\n;\n#endif\n@;", "raw raw"}, {"@';'\";\"@", "raw"}, {"@'@;", "raw"}, {"@ # ;@", "raw raw"},
		{"int x;@;int y;", "decl{type:int var:x} raw decl{type:int var:y}"},
		{"else;int x;", "raw decl{type:int var:x}"}, {"{int x;}int y;", "raw decl{type:int var:y}"}, {"x:int y;", "raw"}, {"if(a)b;", "raw"}, {"\"a\";", "raw"},
	})
}
