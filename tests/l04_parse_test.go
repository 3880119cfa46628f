package tests

import (
	"math/rand"
	"reflect"
	"slices"
	"strconv"
	"strings"
	"testing"

	"loop.example/g00471/impl"
)

// checkExpRead: whatever is read is ExpOk, whatever is not is the zero Exp.
func checkExpRead(t *testing.T, s string) (impl.Exp, bool) {
	t.Helper()
	e, ok := impl.ParseExp(s)
	if ok && !impl.ExpOk(e) {
		t.Errorf("ParseExp(%q) = %+v, true, which is not ExpOk", s, e)
	}
	if !ok && told(e) != told(impl.Exp{}) {
		t.Errorf("ParseExp(%q) = %+v, false", s, e)
	}
	return e, ok
}

func checkProgRead(t *testing.T, s string) (impl.Prog, bool) {
	t.Helper()
	p, ok := impl.ParseProg(s)
	if ok && !impl.ProgOk(p) {
		t.Errorf("ParseProg(%q) = %+v, true, which is not ProgOk", s, p)
	}
	if !ok && told(p) != told(impl.Prog{}) {
		t.Errorf("ParseProg(%q) = %+v, false", s, p)
	}
	return p, ok
}

func wantReadExp(t *testing.T, s string, want impl.Exp) {
	t.Helper()
	if e, ok := checkExpRead(t, s); !ok || told(e) != told(want) {
		t.Errorf("ParseExp(%q) = %+v, %v; want %+v", s, e, ok, want)
	}
}

func wantReadProg(t *testing.T, s string, want impl.Prog) {
	t.Helper()
	if p, ok := checkProgRead(t, s); !ok || told(p) != told(want) {
		t.Errorf("ParseProg(%q) = %+v, %v; want %+v", s, p, ok, want)
	}
}

// wantReadDec: the Dec is read of s wherever one stands.
func wantReadDec(t *testing.T, s string, want impl.Dec) {
	t.Helper()
	wantReadProg(t, s, impl.Prog{Decs: decs(want)})
	wantReadExp(t, "let { "+s+" } in 0", let(num(0), want))
	wantReadProg(t, "o = 0 where { "+s+" }", impl.Prog{Decs: decs(with(dec("o", num(0)), want))})
}

func wantReadAlt(t *testing.T, s string, want impl.Alt) {
	t.Helper()
	wantReadExp(t, "case 0 of { "+s+" }", caseOf(num(0), want))
	wantReadExp(t, "case 0 of "+s, caseOf(num(0), want))
}

func wantReadData(t *testing.T, s string, want impl.Data) {
	t.Helper()
	wantReadProg(t, s+" ; main = 0", progOf(want))
	wantReadProg(t, "main = 0\n"+s, progOf(want))
}

// mayReadExp and mayReadProg: whether it is read at all.
func mayReadExp(t *testing.T, s string, want bool) {
	t.Helper()
	if e, ok := checkExpRead(t, s); ok != want {
		t.Errorf("ParseExp(%q) = %+v, %v; want %v", s, e, ok, want)
	}
}

func mayReadProg(t *testing.T, s string, want bool) {
	t.Helper()
	if p, ok := checkProgRead(t, s); ok != want {
		t.Errorf("ParseProg(%q) = %+v, %v; want %v", s, p, ok, want)
	}
}

func tyBool() impl.Ty { return impl.Ty{K: impl.TBool} }

// within puts n pairs of brackets around s.
func within(n int, s string) string { return strings.Repeat("(", n) + s + strings.Repeat(")", n) }

// listed answers one(0), one(1) and so on, n of them, with between between.
func listed(n int, between string, one func(i int) string) string {
	l := []string{}
	for i := range n {
		l = append(l, one(i))
	}
	return strings.Join(l, between)
}

func TestReadEachKindOfExp(t *testing.T) {
	for s, want := range map[string]impl.Exp{
		"x":                              vr("x"),
		"aB3456xY":                       vr("aB3456xY"),
		"lets":                           vr("lets"),
		"A":                              great("A"),
		"True":                           great("True"),
		"0":                              num(0),
		"7":                              num(7),
		"999999":                         num(999999),
		"(x)":                            vr("x"),
		"((1))":                          num(1),
		"( ( ( A ) ) )":                  great("A"),
		"f x":                            app(vr("f"), vr("x")),
		"A 1":                            app(great("A"), num(1)),
		"1 2":                            app(num(1), num(2)),
		"f(x)":                           app(vr("f"), vr("x")),
		`\x -> 1`:                        lam("x", num(1)),
		`\_->x`:                          lam("_", vr("x")),
		`\x -> \y -> x`:                  lam("x", lam("y", vr("x"))),
		`\x -> \x -> x`:                  lam("x", lam("x", vr("x"))),
		"let x = 1 in x":                 let(vr("x"), dec("x", num(1))),
		"let\n  x = 1\n  y = 2\nin x":    let(vr("x"), dec("x", num(1)), dec("y", num(2))),
		"let { x = 1 ; y = 2 } in x":     let(vr("x"), dec("x", num(1)), dec("y", num(2))),
		"let x = 1 ; y = 2 in x":         let(vr("x"), dec("x", num(1)), dec("y", num(2))),
		"let f x _ = g where g = x in f": let(vr("f"), with(dec("f", vr("g"), "x", "_"), dec("g", vr("x")))),
		"case x of A -> 1":               caseOf(vr("x"), alt("A", num(1))),
		"case x of\n A y -> y\n _ -> 2":  caseOf(vr("x"), alt("A", vr("y"), "y"), alt("", num(2), "_")),
		"case x of{A y->y;z->z}":         caseOf(vr("x"), alt("A", vr("y"), "y"), alt("", vr("z"), "z")),
		"case f x == 1 of True -> 1":     caseOf(op("==", app(vr("f"), vr("x")), num(1)), alt("True", num(1))),
		"if a then b else c":             ifs(vr("a"), vr("b"), vr("c")),
		"if a\nthen b\nelse c":           ifs(vr("a"), vr("b"), vr("c")),
		"a + b":                          op("+", vr("a"), vr("b")),
		"a-b":                            op("-", vr("a"), vr("b")),
		"a * b":                          op("*", vr("a"), vr("b")),
		"a == b":                         op("==", vr("a"), vr("b")),
		"a<b":                            op("<", vr("a"), vr("b")),
		"\n\n  f\n   x\n -- aside\n":     app(vr("f"), vr("x")),
	} {
		wantReadExp(t, s, want)
		wantReadProg(t, "main = "+strings.ReplaceAll(s, "\n", "\n "), impl.Prog{Decs: decs(dec("main", want))})
	}
}

func TestReadExpsByHandOrAlone(t *testing.T) {
	// A block of an exp is read by ParseExp alone, and within an exp there is none.
	wantReadExp(t, "{ 1 }", num(1))
	wantReadExp(t, "\n{ f\nx } -- and no more", app(vr("f"), vr("x")))
	for _, s := range []string{"{ 1 }", "{ f x }"} {
		for _, s := range []string{"main = " + s, s} {
			mayReadProg(t, s, false)
		}
	}
	for _, s := range []string{"({ 1 })", "{{ 1 }}", "f { 1 }", "{ 1 } { 2 }", "{ 1 } ; 2", "{ 1 ; 2 }", "{ 1 ; }", "{ ; 1 }", "1\n2", "1 ; 2", "1 ;", "; 1", "{ 1", "1 }", "{ }", "{", "}"} {
		mayReadExp(t, s, false)
	}
}

func TestReadDecs(t *testing.T) {
	wantReadDec(t, "f = 1", dec("f", num(1)))
	wantReadDec(t, "f x = 1", dec("f", num(1), "x"))
	wantReadDec(t, "f _ = x", dec("f", vr("x"), "_"))
	wantReadDec(t, "f x _ y _ = x", dec("f", vr("x"), "x", "_", "y", "_"))
	wantReadDec(t, "f f = f", dec("f", vr("f"), "f"))
	wantReadDec(t, "f=g where{g=1}", with(dec("f", vr("g")), dec("g", num(1))))
	wantReadDec(t, "f x = g where { g y = 1 ; f = A }", with(dec("f", vr("g"), "x"), dec("g", num(1), "y"), dec("f", great("A"))))
	wantReadDec(t, "f = g where { g = h where { h = 1 } }", with(dec("f", vr("g")), with(dec("g", vr("h")), dec("h", num(1)))))
	wantReadDec(t, "f = g where { g = h where { h = 1 } ; i = 2 }",
		with(dec("f", vr("g")), with(dec("g", vr("h")), dec("h", num(1))), dec("i", num(2))))
	// A where is of the Dec whose body ends ahead of it.
	wantReadDec(t, "f = let g = 1 in h where { h = 2 }", with(dec("f", let(vr("h"), dec("g", num(1)))), dec("h", num(2))))
	wantReadDec(t, "f = let { g = h where { h = 2 } } in g", dec("f", let(vr("g"), with(dec("g", vr("h")), dec("h", num(2))))))
	wantReadDec(t, "f = case x of { A -> h } where { h = 2 }", with(dec("f", caseOf(vr("x"), alt("A", vr("h")))), dec("h", num(2))))
	wantReadDec(t, `f = \x -> h where { h = 2 }`, with(dec("f", lam("x", vr("h"))), dec("h", num(2))))
	wantReadDec(t, "f = if a then b else h where { h = 2 }", with(dec("f", ifs(vr("a"), vr("b"), vr("h"))), dec("h", num(2))))
	for _, s := range []string{"f = g where g = h where h = 1", "f = g\n where\n  g = h\n   where\n    h = 1", "f = g where g = h\n               where h = 1"} {
		wantReadProg(t, s, impl.Prog{Decs: decs(with(dec("f", vr("g")), with(dec("g", vr("h")), dec("h", num(1)))))})
	}
	for _, s := range []string{"f", "f =", "= 1", "f 1 = 1", "F = 1", "_ = 1", "f A = 1", "f (x) = 1", "f x", "f = 1 = 2", "f == 1", "f -> 1", "f = where g = 1", "f = 1 where", "f = 1 where { }", "f = 1 where { g = 1 ; }", "f = 1 where { ; g = 1 }", "f = 1 where g", "f = 1 where 1", "f = 1 where g = 1 where h = 1 where", "f where g = 1", "where g = 1", "let f = 1", "f = 1 where { g = 1 } where { h = 1 }", "f = (1 where g = 1)", "f = case x of { A -> 1 where g = 1 }", "let = 1", "f in = 1", "f x x = 1", "f = 1 ; f = 2", "f = 1 where { g = 1 ; g = 2 }"} {
		mayReadProg(t, s, false)
		mayReadExp(t, "let { "+s+" } in 0", false)
		mayReadProg(t, "o = 0 where { "+s+" }", false)
	}
}

func TestReadAlts(t *testing.T) {
	wantReadAlt(t, "A -> 1", alt("A", num(1)))
	wantReadAlt(t, "A x -> x", alt("A", vr("x"), "x"))
	wantReadAlt(t, "A _ x _ y -> x", alt("A", vr("x"), "_", "x", "_", "y"))
	wantReadAlt(t, "x -> x", alt("", vr("x"), "x"))
	wantReadAlt(t, "_ -> x", alt("", vr("x"), "_"))
	wantReadAlt(t, `x -> \y -> x`, alt("", lam("y", vr("x")), "x"))
	wantReadAlt(t, "x -> case x of { y -> y }", alt("", caseOf(vr("x"), alt("", vr("y"), "y")), "x"))
	for _, s := range []string{"", "A", "A ->", "-> 1", "A = 1", "A 1 -> 1", "1 -> 1", "A B -> 1", "A (x) -> 1", "(A) -> 1", "x y -> 1", "_ x -> 1", "x A -> 1", "A -> 1 -> 2", "A -> 1 ;", "; A -> 1", "A -> 1 ; ; B -> 2", "A -> 1 | B -> 2", "A x x -> 1", "A -> 1 B -> 2", "case -> 1"} {
		mayReadExp(t, "case 0 of { "+s+" }", false)
		mayReadExp(t, "case 0 of "+s, false)
	}
}

func TestReadDatas(t *testing.T) {
	wantReadData(t, "data T = A", data("T", con("A")))
	wantReadData(t, "data T = T", data("T", con("T")))
	wantReadData(t, "data T = A | B | C", data("T", con("A"), con("B"), con("C")))
	wantReadData(t, "data T = A Int | B", data("T", con("A", tyInt()), con("B")))
	wantReadData(t, "data T = A Int Bool T U", data("T", con("A", tyInt(), tyBool(), tyData("T"), tyData("U"))))
	wantReadData(t, "data T = A (Int)", data("T", con("A", tyInt())))
	wantReadData(t, "data T = A ((((T))))", data("T", con("A", tyData("T"))))
	wantReadData(t, "data T = A "+within(150, "T"), data("T", con("A", tyData("T"))))
	wantReadData(t, "data T = A (Int -> Bool)", data("T", con("A", tyFun(tyInt(), tyBool()))))
	wantReadData(t, "data T=A(T->T)Int|B", data("T", con("A", tyFun(tyData("T"), tyData("T")), tyInt()), con("B")))
	wantReadData(t, "data T = A (Int -> Bool) (T -> Int)", data("T", con("A", tyFun(tyInt(), tyBool()), tyFun(tyData("T"), tyInt()))))
	wantReadData(t, "data T = A (True -> False)", data("T", con("A", tyFun(tyData("True"), tyData("False")))))
	for _, s := range []string{"data", "data T", "data T =", "data = A", "data t = A", "data T = a", "data T A", "data T == A", "data T x = A", "data T U = A", "data T = A | ", "data T = | A", "data T = A || B", "data T = A x", "data T = A 1", "data T = A _", "data T = A Int -> T", "data T = A (", "data T = A )", "data T = A ()", "data T = A (Int", "data T = A (Int -> )", "data T = A (-> Int)", "data T = A (Int -> -> Int)", "data T = A (Int Int)", "data T = A (x)", "data T = A (Int -> x)", "data T = (A)", "data T = { A }", "data T = A = B", "data T = A where f = 1", "T = A", "data data T = A", "data T = A | A", "data Int = A", "data T = True", "data T = A data"} {
		mayReadProg(t, s+" ; main = 0", false)
		mayReadProg(t, "main = 0 ; "+s, false)
	}
	// A data stands among definitions of a program alone.
	for _, s := range []string{"let { data T = A } in 0", "let { data T = A ; x = 1 } in 0", "data T = A", "case 0 of { data T = A }"} {
		mayReadExp(t, s, false)
	}
	mayReadProg(t, "main = 0 where { data T = A ; x = 1 }", false)
	mayReadProg(t, "data T = A", false)
}

func TestReadGroupsOfTypes(t *testing.T) {
	i, b, d := tyInt(), tyBool(), tyData("T")
	for s, want := range map[string]impl.Ty{
		"(Int -> Bool -> T)":                tyFun(i, tyFun(b, d)),
		"(Int -> (Bool -> T))":              tyFun(i, tyFun(b, d)),
		"((Int -> Bool) -> T)":              tyFun(tyFun(i, b), d),
		"((Int -> Bool -> T))":              tyFun(i, tyFun(b, d)),
		"(Int -> Bool -> T -> Int)":         tyFun(i, tyFun(b, tyFun(d, i))),
		"(((Int -> Bool) -> T) -> Int)":     tyFun(tyFun(tyFun(i, b), d), i),
		"((Int -> Bool) -> (T -> Int))":     tyFun(tyFun(i, b), tyFun(d, i)),
		"((Int -> Bool) -> T -> Int)":       tyFun(tyFun(i, b), tyFun(d, i)),
		"(Int -> (Bool -> T) -> Int)":       tyFun(i, tyFun(tyFun(b, d), i)),
		"(Int -> Bool -> T -> Int -> Bool)": tyFun(i, tyFun(b, tyFun(d, tyFun(i, b)))),
	} {
		wantReadData(t, "data T = A "+s, data("T", con("A", want)))
		wantReadData(t, "data T = A Int "+s+" T | B "+s, data("T", con("A", i, want, d), con("B", want)))
	}
}

func TestReadProgs(t *testing.T) {
	mixed := impl.Prog{
		Datas: []impl.Data{data("T", con("A"), con("B", tyInt())), data("U", con("C"))},
		Decs:  decs(dec("f", num(1), "x"), with(dec("g", vr("h")), dec("h", num(2))), dec("main", num(3))),
	}
	for _, s := range []string{
		"data T = A | B Int\nf x = 1\ndata U = C\ng = h\n where h = 2\nmain = 3\n",
		"f x = 1\ng = h where\n  h = 2\ndata T = A | B Int\nmain = 3\ndata U = C",
		"f x\n  = 1\ng = h\n  where\n    h\n     = 2\nmain\n = 3\ndata T\n = A\n | B\n    Int\ndata U = C\n\n",
		"{ data T = A | B Int ; data U = C ; f x = 1 ; g = h where { h = 2 } ; main = 3 }",
		"{f x=1;data T=A|B Int;g=h where{h=2};main=3;data U=C}",
		"{ f x = 1\n; data T\n= A | B Int ; g = h\nwhere\n{\nh = 2 } ; main = 3 ; data U = C }",
		"   f x = 1 -- one\n   data T = A | B Int -- two\n   g = h where h = 2\n   data U = C ; main = 3",
	} {
		wantReadProg(t, s, mixed)
	}
	// What was opened by its margin is not closed by hand.
	mayReadProg(t, "{ g = h where h = 2 }", false)
	wantReadProg(t, "main = 1", impl.Prog{Decs: decs(dec("main", num(1)))})
	wantReadProg(t, "main = 1\n  + 2", impl.Prog{Decs: decs(dec("main", op("+", num(1), num(2))))})
	wantReadProg(t, "a = 1 ; b = 2\nc = 3", impl.Prog{Decs: decs(dec("a", num(1)), dec("b", num(2)), dec("c", num(3)))})
	for _, s := range []string{"", " ", "\n", "-- main = 1", "{ }", "{", "}", "{ ; }", ";", "main = 1 ;", "; main = 1", "a = 1 ; ; b = 2", "{ a = 1 } { b = 2 }", "{ a = 1 } b = 2", "{ a = 1 }\nb = 2", "{ a = 1 } ;", "{ a = 1 } }", "{ a = 1", "a = 1 }", "a = 1\n  + 2\n3", "1", "x", "a = 1 b = 2", "a = 1, b = 2", "{ { a = 1 } }", "(a = 1)", "a = 1\n b = 2", "in", "a = 1 in"} {
		mayReadProg(t, s, false)
	}
}

func TestReadGroups(t *testing.T) {
	a, b, c, d := vr("a"), vr("b"), vr("c"), vr("d")
	for s, want := range map[string]impl.Exp{
		"a - b - c":           op("-", op("-", a, b), c),
		"a - (b - c)":         op("-", a, op("-", b, c)),
		"(a - b) - c":         op("-", op("-", a, b), c),
		"a + b - c + d":       op("+", op("-", op("+", a, b), c), d),
		"a + (b - c) + d":     op("+", op("+", a, op("-", b, c)), d),
		"a * b * c":           op("*", op("*", a, b), c),
		"a * (b * c)":         op("*", a, op("*", b, c)),
		"a * b * c * d":       op("*", op("*", op("*", a, b), c), d),
		"a + b * c":           op("+", a, op("*", b, c)),
		"a * b + c":           op("+", op("*", a, b), c),
		"(a + b) * c":         op("*", op("+", a, b), c),
		"a * (b + c)":         op("*", a, op("+", b, c)),
		"a - b * c - d":       op("-", op("-", a, op("*", b, c)), d),
		"a * b - c * d":       op("-", op("*", a, b), op("*", c, d)),
		"a b c":               app(app(a, b), c),
		"a b c d":             app(app(app(a, b), c), d),
		"a (b c)":             app(a, app(b, c)),
		"(a b) c":             app(app(a, b), c),
		"a (b c) d":           app(app(a, app(b, c)), d),
		"(a) (b) (c)":         app(app(a, b), c),
		"a b * c d":           op("*", app(a, b), app(c, d)),
		"a b + c d":           op("+", app(a, b), app(c, d)),
		"a (b + c) d":         app(app(a, op("+", b, c)), d),
		"(a + b) c":           app(op("+", a, b), c),
		"a == b":              op("==", a, b),
		"a + b == c * d":      op("==", op("+", a, b), op("*", c, d)),
		"a b < c - d":         op("<", app(a, b), op("-", c, d)),
		"(a == b) == c":       op("==", op("==", a, b), c),
		"a == (b == c)":       op("==", a, op("==", b, c)),
		"(a < b) == (c < d)":  op("==", op("<", a, b), op("<", c, d)),
		"a < (b < c)":         op("<", a, op("<", b, c)),
		"a + (b == c)":        op("+", a, op("==", b, c)),
		"(a == b) * c":        op("*", op("==", a, b), c),
		"a (b == c)":          app(a, op("==", b, c)),
		"A 1 (B x) 2":         app(app(app(great("A"), num(1)), app(great("B"), vr("x"))), num(2)),
		"a-b*c d":             op("-", a, op("*", b, app(c, d))),
		"(a - b - c) - (d)":   op("-", op("-", op("-", a, b), c), d),
		"a - (b - (c - d))":   op("-", a, op("-", b, op("-", c, d))),
		"a * (b * c) * d":     op("*", op("*", a, op("*", b, c)), d),
		"(a b c) (a (b c) d)": app(app(app(a, b), c), app(app(a, app(b, c)), d)),
	} {
		wantReadExp(t, s, want)
		wantReadExp(t, within(1, s), want)
	}
	for _, first := range []string{"==", "<"} {
		for _, second := range []string{"==", "<"} {
			mayReadExp(t, "a "+first+" b "+second+" c", false)
			mayReadExp(t, "(a "+first+" b) "+second+" c", true)
			mayReadExp(t, "a "+first+" (b "+second+" c)", true)
			mayReadExp(t, "a "+first+" b + 1 "+second+" c", false)
		}
	}
	for _, s := range []string{"+", "a +", "+ a", "- 1", "a + - b", "a + + b", "a * * b", "a == == b", "a ==", "< a", "a = b", "a -> b", "a | b", "_", "f _", "()", "f ()", "(", ")", "a)", "(a", "(a))", "((a)", "a \\ b", "(+)", "a (+) b", "(a +) b", "1 .. 2"} {
		mayReadExp(t, s, false)
	}
}

func TestReadHowFarTheyReach(t *testing.T) {
	x, y := vr("x"), vr("y")
	sum := op("+", x, y)
	for s, want := range map[string]impl.Exp{
		// To the end of what they stand in.
		`\x -> x + y`:                           lam("x", sum),
		`\x -> x y`:                             lam("x", app(x, y)),
		`\x -> x == y`:                          lam("x", op("==", x, y)),
		`(\x -> x) + y`:                         op("+", lam("x", x), y),
		`(\x -> x) y`:                           app(lam("x", x), y),
		`f (\x -> x + y)`:                       app(vr("f"), lam("x", sum)),
		`\x -> let y = 1 in x + y`:              lam("x", let(sum, dec("y", num(1)))),
		"let z = 1 in x + y":                    let(sum, dec("z", num(1))),
		"(let z = 1 in x) + y":                  op("+", let(x, dec("z", num(1))), y),
		"let z = x + y in x y":                  let(app(x, y), dec("z", sum)),
		"let z = let a = 1 in x in y":           let(y, dec("z", let(x, dec("a", num(1))))),
		"if x then y else x + y":                ifs(x, y, sum),
		"(if x then y else x) + y":              op("+", ifs(x, y, x), y),
		"if x + y then x y else x == y":         ifs(sum, app(x, y), op("==", x, y)),
		`if x then \z -> x else \z -> x + y`:    ifs(x, lam("z", x), lam("z", sum)),
		"if x then y else if y then x else sum": ifs(x, y, ifs(y, x, vr("sum"))),
		"if x then if y then x else y else sum": ifs(x, ifs(y, x, y), vr("sum")),
		"if if x then y else x then y else sum": ifs(ifs(x, y, x), y, vr("sum")),
		"if let z = 1 in x then y else x":       ifs(let(x, dec("z", num(1))), y, x),
		"if case x of y -> y then y else x":     ifs(caseOf(x, alt("", y, "y")), y, x),
		"case x of A -> x + y":                  caseOf(x, alt("A", sum)),
		"(case x of A -> x) + y":                op("+", caseOf(x, alt("A", x)), y),
		"case x + y of A -> x":                  caseOf(sum, alt("A", x)),
		"case case x of y -> y of z -> z":       caseOf(caseOf(x, alt("", y, "y")), alt("", vr("z"), "z")),
		`case \x -> y of z -> z`:                caseOf(lam("x", y), alt("", vr("z"), "z")),
		"case if x then y else x of z -> z":     caseOf(ifs(x, y, x), alt("", vr("z"), "z")),
		"case let y = 1 in y of z -> z":         caseOf(let(y, dec("y", num(1))), alt("", vr("z"), "z")),
		"case x of { A -> case y of { B -> 1 ; C -> 2 } ; D -> 3 }": caseOf(x,
			alt("A", caseOf(y, alt("B", num(1)), alt("C", num(2)))), alt("D", num(3))),
		"case x of\n  A -> case y of\n    B -> 1\n    C -> 2\n  D -> 3": caseOf(x,
			alt("A", caseOf(y, alt("B", num(1)), alt("C", num(2)))), alt("D", num(3))),
		"let\n  a = case x of\n    A -> 1\n    B -> 2\n  b = 3\nin case y of\n  C -> 4": let(
			caseOf(y, alt("C", num(4))), dec("a", caseOf(x, alt("A", num(1)), alt("B", num(2)))), dec("b", num(3))),
	} {
		wantReadExp(t, s, want)
		wantReadExp(t, "(("+strings.ReplaceAll(s, "\n", "\n  ")+"))", want)
	}
	// As a side of an operator, or of a call, they stand within brackets.
	for _, long := range []string{`\x -> x`, "let z = 1 in x", "case x of { A -> x }", "if x then y else x"} {
		for _, s := range []string{"y + %", "y - %", "y * %", "y == %", "y < %", "f %", "f x %", "A %"} {
			mayReadExp(t, strings.ReplaceAll(s, "%", long), false)
			mayReadExp(t, strings.ReplaceAll(s, "%", within(1, long)), true)
		}
	}
	for _, s := range []string{"case x of { A -> x } + y", "case x of { A -> x } y", "case x of { A -> x } == y", "case x of { A -> x } of { y -> y }"} {
		mayReadExp(t, s, false)
	}
}

// arounds are the ways in which an exp stands in another: % is where it does. Brackets are one of them.
var arounds = []string{
	"(%)", "(%) x", "f (%)", "f x (%) y", "(%) + 1", "1 + (%)", "1 - 2 * (%)", "(%) * 3", "(%) == 1", "1 < (%)",
	`\x -> %`, `\_ -> %`, "let z = 1 in %", "let z = % in 1", "let { y = 1 ; z = % } in 1", "let z = 1 where y = % in 1", "let z = % where y = 1 in 1",
	"case % of { A -> 1 }", "case x of { A -> % }", "case x of { A -> 1 ; y -> % ; z -> 2 }",
	"if % then 1 else 2", "if 1 then % else 2", "if 1 then 2 else %",
}

func TestReadHowManyAround(t *testing.T) {
	put := func(around, s string) string { return strings.ReplaceAll(around, "%", s) }
	inners := []string{"1", "x", "A", "f x", "f x y", "1 + 2", "1 + 2 - 3", "1 * 2", "1 == 2", "f x + 1 < 2"}
	for _, inner := range inners {
		for n := 57; n <= 62; n++ {
			s := within(n, inner)
			mayReadExp(t, s, n <= 59)
			mayReadProg(t, "main = "+s, n <= 59)
			// What stands beside it, or in a where, is not around it.
			mayReadProg(t, "main = 1 where z = "+s, n <= 59)
			mayReadProg(t, "main = "+s+" where z = (1)", n <= 59)
			mayReadProg(t, "main = 1 where y = 1 where z = "+s, n <= 59)
			mayReadExp(t, "f x + "+s, n <= 59)
			mayReadExp(t, s+" == 1", n <= 59)
			mayReadExp(t, s+" x y", n <= 59)
			for _, around := range arounds {
				// Each of these is one exp more around s, with its own brackets or without any.
				mayReadExp(t, put(around, within(n-1, inner)), n <= 59)
				mayReadExp(t, within(n-1, put(around, inner)), n <= 59)
				mayReadProg(t, "main = "+within(n-31, put(around, within(30, inner))), n <= 59)
			}
		}
	}
	for _, a := range arounds {
		for _, b := range arounds {
			for n := 58; n <= 61; n++ {
				mayReadExp(t, put(a, within(n-2, put(b, "1"))), n <= 59)
				mayReadExp(t, within(n-12, put(a, within(10, put(b, "1")))), n <= 59)
			}
		}
	}
	// Far too many, of as many signs as there may be.
	mayReadExp(t, within(199, "1"), false)
	mayReadExp(t, strings.Repeat("(", 399), false)
	mayReadProg(t, "main = "+strings.Repeat("(", 390), false)
	mayReadExp(t, strings.Repeat(`\x->`, 120)+"1", false)
}

func TestReadHowManyAroundCountsNoNeighbours(t *testing.T) {
	// Three with as many around as there may be, one behind the other.
	full := within(59, "1")
	wantReadProg(t, "a = "+full+"\nb = "+full+"\nc = "+full, impl.Prog{Decs: decs(dec("a", num(1)), dec("b", num(1)), dec("c", num(1)))})
	more := within(58, "1")
	wantReadExp(t, "if "+more+" then "+more+" else "+more, ifs(num(1), num(1), num(1)))
	wantReadExp(t, full+" + "+full+" * "+full, op("+", num(1), op("*", num(1), num(1))))
	wantReadExp(t, "case "+more+" of { A -> "+more+" ; B -> "+more+" }", caseOf(num(1), alt("A", num(1)), alt("B", num(1))))
	wantReadExp(t, "let { a = "+more+" ; b = "+more+" } in "+more, let(num(1), dec("a", num(1)), dec("b", num(1))))
}

func TestReadHowDeep(t *testing.T) {
	for deep := 10; deep <= 14; deep++ {
		ok := deep <= 12
		for _, s := range []string{
			strings.Repeat(`\x -> `, deep-1) + "1",
			"f" + strings.Repeat(" x", deep-1),
			"1" + strings.Repeat(" + 1", deep-1),
			"1" + strings.Repeat(" - 1", deep-1),
			"1" + strings.Repeat(" * 1", deep-1),
			strings.Repeat("1 - (", deep-1) + "1" + strings.Repeat(")", deep-1),
			strings.Repeat("f (", deep-1) + "1" + strings.Repeat(")", deep-1),
			strings.Repeat("if 1 then 1 else ", deep-1) + "1",
			// The body of the last one's Dec is two deeper than that let.
			strings.Repeat("let x = 1 in ", deep-2) + "1",
			strings.Repeat("case 1 of { A -> ", deep-1) + "1" + strings.Repeat(" }", deep-1),
			strings.Repeat("case ", deep-1) + "1" + strings.Repeat(" of { A -> 1 }", deep-1),
		} {
			mayReadExp(t, s, ok)
			mayReadProg(t, "main = "+s, ok)
			mayReadProg(t, "main = 1 where z = "+s, deep+1 <= 12)
			mayReadExp(t, "let z = "+s+" in 1", deep+2 <= 12)
		}
		wheres := strings.Repeat("d = 1 where ", deep) + "d = 1"
		mayReadProg(t, wheres, deep+1 <= 12)
	}
}

func TestReadHowManyOfEach(t *testing.T) {
	numberedDec := func(i int) string { return "d" + strconv.Itoa(i) + " = 1" }
	numberedPar := func(i int) string { return "p" + strconv.Itoa(i) }
	numberedCon := func(i int) string { return "C" + strconv.Itoa(i) }
	for _, c := range []struct {
		most int
		text func(n int) string
	}{
		{6, func(n int) string { return "o = let { " + listed(n, " ; ", numberedDec) + " } in 1" }},
		{6, func(n int) string { return "o = 1 where { " + listed(n, " ; ", numberedDec) + " }" }},
		{6, func(n int) string { return "o = let\n  " + listed(n, "\n  ", numberedDec) + "\n in 1" }},
		{12, func(n int) string { return listed(n, "\n", numberedDec) }},
		{12, func(n int) string { return "{ data T = A ; " + listed(n, " ; ", numberedDec) + " }" }},
		{6, func(n int) string {
			return "o = case 1 of { " + listed(n, " ; ", func(i int) string { return "x -> 1" }) + " }"
		}},
		{4, func(n int) string { return "o " + listed(n, " ", numberedPar) + " = 1" }},
		{4, func(n int) string { return "o = 1 where f " + listed(n, " ", numberedPar) + " = 1" }},
		{4, func(n int) string { return "o = case 1 of { A " + listed(n, " ", numberedPar) + " -> 1 }" }},
		{5, func(n int) string { return "o = 1\ndata T = " + listed(n, " | ", numberedCon) }},
		{5, func(n int) string {
			return "o = 1\n" + listed(n, "\n", func(i int) string { return "data T" + strconv.Itoa(i) + " = " + numberedCon(i) })
		}},
		{4, func(n int) string { return "o = 1\ndata T = A" + strings.Repeat(" Int", n) }},
		{4, func(n int) string { return "o = 1\ndata T = A" + strings.Repeat(" (Int -> T)", n) + " | B" }},
		// A type of n arrows is of twice as many parts and one more, and one deeper.
		{4, func(n int) string { return "o = 1\ndata T = A (Int" + strings.Repeat(" -> Int", n) + ")" }},
		{4, func(n int) string {
			return "o = 1\ndata T = A " + strings.Repeat("(", n) + "Int" + strings.Repeat(" -> Int)", n)
		}},
	} {
		for n := 1; n <= c.most+3; n++ {
			mayReadProg(t, c.text(n), n <= c.most)
		}
	}
	for s, want := range map[string]bool{"999999": true, "1000000": false, "100000": true, "0": true, "00": false, "01": false} {
		mayReadExp(t, s, want)
		mayReadProg(t, "main = "+s, want)
		mayReadProg(t, "main = f "+s+" + 1", want)
	}
	for s, want := range map[string]bool{"abcdefgh": true, "abcdefghi": false, "Abcdefgh": true, "Abcdefghi": false} {
		mayReadExp(t, s, want)
	}
}

// sums answers Decs, one a line, whose bodies are of so many Exps, each of them an odd number of at most 23.
func sums(sizes ...int) string {
	return listed(len(sizes), "\n", func(i int) string {
		return "s" + strconv.Itoa(i) + " = 1" + strings.Repeat(" + 1", sizes[i]/2)
	})
}

func TestReadHowManyExps(t *testing.T) {
	// Eleven sums of 17 Exps, and one of 11 below lambdas.
	for lams := range 5 {
		s := sums(17, 17, 17, 17, 17, 17, 17, 17, 17, 17, 17) + "\nmain = " + strings.Repeat(`\_ -> `, lams) + "1 - 1 - 1 - 1 - 1 - 1"
		mayReadProg(t, s, lams <= 2)
		mayReadProg(t, s+"\n  where z = 1", lams <= 1)
		mayReadProg(t, s+"\n  where\n    z = 1\n    y = 1", lams <= 0)
	}
	// A let of six sums of 19, and a case of four of them, and of one of 5 below lambdas.
	ten := "1" + strings.Repeat(" + 1", 9)
	for lams := range 6 {
		s := "let\n  " + listed(6, "\n  ", func(i int) string { return "s" + strconv.Itoa(i) + " = " + ten }) +
			"\nin case " + ten + " of\n  A -> " + ten + "\n  B -> " + ten + "\n  C -> " + ten + "\n  _ -> " + strings.Repeat(`\_ -> `, lams) + "1 + 2 * 3"
		if e, ok := checkExpRead(t, s); ok != (lams <= 3) || ok && impl.Size(e) != 197+lams {
			t.Errorf("ParseExp(%q): %v, of %d Exps; want %d", s, ok, impl.Size(e), 197+lams)
		}
	}
}

func TestReadLongTexts(t *testing.T) {
	for n := 1496; n <= 1503; n++ {
		for _, s := range []string{"main = 1", "main = f x\n", "data T = A\nmain = \\x -> (x)"} {
			ok := n <= 1500
			fill := strings.Repeat(" ", n-len(s))
			mayReadProg(t, s+fill, ok)
			mayReadProg(t, s+strings.Repeat("\n", n-len(s)), ok)
			mayReadProg(t, s+"--"+fill[2:], ok)
			mayReadProg(t, strings.Repeat("\n", n-len(s))+s, ok)
		}
		mayReadExp(t, strings.Repeat(" ", n-3)+"f x", n <= 1500)
		mayReadExp(t, "f"+strings.Repeat(" ", n-2)+"x", n <= 1500)
	}
	// Signs: three Decs of 121, and one of as many as are left, with the end behind.
	full := within(59, "1")
	for pars := range 5 {
		s := "a = " + full + "\nb = " + full + "\nc = " + full + "\nd" + strings.Repeat(" _", pars) + " = " + within(15, "f x")
		signs := 3*121 + 2 + pars + 32 + 1
		if l, ok := impl.Lex(s); ok != (signs <= 400) || ok && len(l) != signs {
			t.Fatalf("%d signs: %v, %d", signs, ok, len(l))
		}
		mayReadProg(t, s, signs <= 400)
	}
}

func TestReadWhatIsNoText(t *testing.T) {
	for b := range 256 {
		c := string([]byte{byte(b)})
		_, lexes := impl.Lex(c)
		for _, s := range []string{"f x" + c, c + "f x", "f " + c + " x", "f x --" + c, c, c + c} {
			_, ok := checkExpRead(t, s)
			if !lexes && ok && !strings.Contains(s, "--") {
				t.Errorf("ParseExp(%q) is read", s)
			}
			checkProgRead(t, s)
			checkProgRead(t, "main = "+s)
		}
	}
	for _, s := range []string{"\xff", "f \xc3", "f \xc3\xa4", "f\tx", "f\rx", "f x\x00", "x'", "\"x\"", "f.g", "f, x", "[1]", "f # x", "a > b", "a / b", "a && b", "a : b", "x!", "ä", "f ⊕ x", "١", "𝟙"} {
		mayReadExp(t, s, false)
		mayReadProg(t, "main = "+s, false)
		mayReadExp(t, "1 -- "+s, true)
	}
}

func TestReadWhatLayRefuses(t *testing.T) {
	for _, s := range []string{"(", ")", "(a", "a)", "let x = 1", "let x = 1 in", "in x", "let (x = 1 in x)", "if a", "if a then b", "if a else b then c", "then a", "else a", "case a", "case a of", "of a", "case (a of) b", "if (a then b) else c", "{ (", "{ ) }", "let { x = 1 in x", "let x = 1 } in x", "case a of { b -> c", "(let x = 1)", "case a then b", "if a of b", "where"} {
		mayReadExp(t, s, false)
		mayReadProg(t, "main = "+s, false)
		mayReadProg(t, s, false)
	}
}

// A grammar is that of the chapter, told once more: what each thing may be made of, from the front on.
// Words and marks stand for themselves, n, G and 0 for a name, a great name and digits, $ for the end.
var grammar = map[string][]string{
	"prog":  {"{ tops } $"},
	"only":  {"{ exp } $"},
	"tops":  {"top", "top ; tops"},
	"top":   {"data G = cons", "dec"},
	"cons":  {"con", "con | cons"},
	"con":   {"G types"},
	"types": {"", "type types"},
	"type":  {"G", "( to )"},
	"to":    {"type", "type -> to"},
	"dec":   {"n pars = exp", "n pars = exp where { decs }"},
	"decs":  {"dec", "dec ; decs"},
	"pars":  {"", "par pars"},
	"par":   {"n", "_"},
	"exp":   {`\ par -> exp`, "let { decs } in exp", "case exp of { alts }", "if exp then exp else exp", "cmp"},
	"alts":  {"alt", "alt ; alts"},
	"alt":   {"pat -> exp"},
	"pat":   {"G pars", "par"},
	"cmp":   {"sum", "sum == sum", "sum < sum"},
	"sum":   {"mul", "mul + sum", "mul - sum"},
	"mul":   {"app", "app * mul"},
	"app":   {"atom", "atom app"},
	"atom":  {"n", "G", "0", "( exp )"},
}

// A matcher tells where a thing of the grammar may end that begins at a place, by trying all.
type matcher struct {
	l     []impl.Tok
	known map[matchAt][]int
}

type matchAt struct {
	what string
	at   int
}

func (m *matcher) ends(what string, at int) []int {
	ways, isThing := grammar[what]
	if !isThing {
		if at < len(m.l) && signFor(m.l[at]) == what {
			return []int{at + 1}
		}
		return nil
	}
	key := matchAt{what, at}
	if l, ok := m.known[key]; ok {
		return l
	}
	found := map[int]bool{}
	for _, way := range ways {
		now := map[int]bool{at: true}
		for _, part := range strings.Fields(way) {
			next := map[int]bool{}
			for from := range now {
				for _, to := range m.ends(part, from) {
					next[to] = true
				}
			}
			now = next
		}
		for to := range now {
			found[to] = true
		}
	}
	l := []int{}
	for to := range found {
		l = append(l, to)
	}
	m.known[key] = l
	return l
}

func signFor(x impl.Tok) string {
	return map[int]string{impl.TkName: "n", impl.TkGreat: "G", impl.TkNum: "0", impl.TkWord: x.S, impl.TkMark: x.S, impl.TkEnd: "$"}[x.K]
}

func isOfGrammar(what, s string) bool {
	l, ok := impl.Lex(s)
	if !ok {
		return false
	}
	l, ok = impl.Lay(l)
	m := matcher{l, map[matchAt][]int{}}
	return ok && slices.Contains(m.ends(what, 0), len(l))
}

// signsToTry are those that may be one too many, or in the place of another.
var signsToTry = strings.Fields(`let in where case of if then else data -> == ( ) { } ; = \ | + - * < _ zz ZZ 7 --`)

// checkByGrammar: what passes no limit is read just if the grammar has it.
func checkByGrammar(t *testing.T, s string) {
	t.Helper()
	mayReadProg(t, s, isOfGrammar("prog", s))
	mayReadExp(t, s, isOfGrammar("only", s))
}

func TestReadWithOneSignAmiss(t *testing.T) {
	for _, s := range []string{
		"{ data T = A | B U ( V -> T ) ; f x _ = case x of { A -> y ; B n g -> n ; z -> 1 } where { y = 2 ; w v = 3 } }",
		"{ a = let { c = 1 ; d q = q } in if a == b then \\ v -> v + 1 - 2 * ( 3 ) else f A 1 < 4 ; data U = C }",
		"{ let { c = 1 ; d q = q } in if a == b then \\ v -> v + 1 - 2 * ( 3 ) else f A 1 < 4 }",
		"{ case f ( g x ) of { A _ y -> \\ _ -> y ; z -> let { w = z where { k = 1 } } in w } }",
		"f x = case x of\n    A -> y\n    B n -> n\n  where\n    y = 2\ndata T = A\n | B T\nmain = let\n    a = 1\n    b = 2\n  in if a < b\n    then f A\n    else 3",
		"let\n  x = 1\n  y = x\nin case y of\n  A z -> z + 1\n  _ -> \\w ->\n   w",
	} {
		checkByGrammar(t, s)
		l, _ := impl.Lex(s)
		for i, x := range l {
			at := placeOf(s, x)
			ahead, behind := s[:at], s[at+len(x.S):]
			checkByGrammar(t, ahead+behind)
			checkByGrammar(t, ahead)
			for _, sign := range signsToTry {
				checkByGrammar(t, ahead+" "+sign+" "+x.S+behind)
				checkByGrammar(t, ahead+" "+sign+" "+behind)
			}
			if i+1 < len(l) {
				next := placeOf(s, l[i+1])
				checkByGrammar(t, ahead+l[i+1].S+" "+x.S+s[next+len(l[i+1].S):])
			}
		}
	}
}

// placeOf answers which byte of s a Tok begins at.
func placeOf(s string, x impl.Tok) int {
	at := 0
	for range x.Line - 1 {
		at += strings.Index(s[at:], "\n") + 1
	}
	return at + x.Col - 1
}

// byHand writes a right Exp so that no margin and no grouping tells what is of what.
func byHand(e impl.Exp) string {
	part := func(i int) string { return "(" + byHand(e.L[i]) + ")" }
	switch e.K {
	case impl.ENum:
		return strconv.Itoa(e.N)
	case impl.EApp:
		return part(0) + part(1)
	case impl.ELam:
		return `\` + e.S + "->" + part(0)
	case impl.ELet:
		return "let" + decsByHand(e.Decs) + "in" + part(0)
	case impl.ECase:
		alts := listed(len(e.Alts), ";", func(i int) string {
			a := e.Alts[i]
			return strings.Join(append([]string{a.Great}, a.Vars...), " ") + "->(" + byHand(a.E) + ")"
		})
		return "case" + part(0) + "of{" + alts + "}"
	case impl.EIf:
		return "if" + part(0) + "then" + part(1) + "else" + part(2)
	case impl.EOp:
		return part(0) + e.S + part(1)
	}
	return e.S
}

func decsByHand(l []impl.Dec) string {
	return "{" + listed(len(l), ";", func(i int) string {
		d := l[i]
		s := strings.Join(append([]string{d.Name}, d.Pars...), " ") + "=" + byHand(d.E)
		if len(d.Where) > 0 {
			s += " where" + decsByHand(d.Where)
		}
		return s
	}) + "}"
}

// rightExp answers an Exp of any kind that is right, unless it is too large.
func rightExp(r *rand.Rand, deep int) impl.Exp {
	names := []string{"a", "b", "c1", "dD"}
	one := func(l []string) string { return l[r.Intn(len(l))] }
	sub := func() impl.Exp { return rightExp(r, deep-1) }
	kind := r.Intn(10)
	if deep <= 1 {
		kind = r.Intn(3)
	}
	switch kind {
	case 0:
		return vr(one(names))
	case 1:
		return great(one([]string{"A", "Bb", "True"}))
	case 2:
		return num(r.Intn(1000000))
	case 3:
		return app(sub(), sub())
	case 4:
		return lam(one(append(names, "_")), sub())
	case 5:
		if deep > 2 {
			return let(sub(), rightDecs(r, deep-1)...)
		}
	case 6:
		return caseOf(sub(), alt("A", sub()), alt("", sub(), one([]string{"_", "a"})), alt("Bb", sub(), "_", "b", "_"))
	case 7:
		return ifs(sub(), sub(), sub())
	}
	return op(one([]string{"+", "-", "*", "==", "<"}), sub(), sub())
}

// rightDecs answers Decs that are so deep themselves at most.
func rightDecs(r *rand.Rand, deep int) []impl.Dec {
	l := []impl.Dec{}
	for i := range 1 + r.Intn(2) {
		d := dec([]string{"a", "f"}[i], rightExp(r, deep-1), []string{"x", "_", "y", "_"}[:r.Intn(5)]...)
		if deep > 2 && r.Intn(3) == 0 {
			d.Where = rightDecs(r, deep-1)
		}
		l = append(l, d)
	}
	return l
}

func TestReadWhatIsWrittenByHand(t *testing.T) {
	r := rand.New(rand.NewSource(4))
	read, apart := 0, map[string]bool{}
	for i := range 4000 {
		e := rightExp(r, 1+i%5)
		s := byHand(e)
		if _, ok := impl.Lex(s); !ok || !impl.ExpOk(e) {
			checkExpRead(t, s)
			continue
		}
		wantReadExp(t, s, e)
		wantReadProg(t, "{main="+s+"}", impl.Prog{Decs: decs(dec("main", e))})
		read++
		apart[s] = true
	}
	if read < 2000 || len(apart) < 1000 {
		t.Error("too few to tell", read, len(apart))
	}
}

func TestWhatIsReadIsRight(t *testing.T) {
	r := rand.New(rand.NewSource(5))
	signs := append(slices.Clone(signsToTry), "a", "b", "A", "B", "1", "\n", "\n  ", "\n    ", "main =", "= 1", "-> 1", "case x of", "let x = 1 in")
	bytes := " \n(){};=\\|+-*<_->aAx09\xff.let in of"
	exps, progs := 0, 0
	for i := range 60000 {
		var b strings.Builder
		if i%3 == 0 {
			b.WriteString("main = ")
		}
		for range r.Intn(12) {
			if i%2 == 0 {
				b.WriteString(signs[r.Intn(len(signs))] + " ")
			} else {
				b.WriteByte(bytes[r.Intn(len(bytes))])
			}
		}
		if _, ok := checkExpRead(t, b.String()); ok {
			exps++
		}
		if _, ok := checkProgRead(t, b.String()); ok {
			progs++
		}
	}
	if exps < 100 || progs < 100 {
		t.Error("too few to tell", exps, progs)
	}
}

// sharesNothing: no two lists of a value lie in the same memory, not even by the room behind them.
func sharesNothing(t *testing.T, what string, v reflect.Value) {
	t.Helper()
	type room struct{ from, to uintptr }
	var rooms []room
	var walk func(v reflect.Value)
	walk = func(v reflect.Value) {
		switch v.Kind() {
		case reflect.Struct:
			for i := range v.NumField() {
				walk(v.Field(i))
			}
		case reflect.Slice:
			if v.Cap() > 0 {
				rooms = append(rooms, room{v.Pointer(), v.Pointer() + uintptr(v.Cap())*v.Type().Elem().Size()})
			}
			for i := range v.Len() {
				walk(v.Index(i))
			}
		}
	}
	walk(v)
	for i, a := range rooms {
		for _, b := range rooms[:i] {
			if a.from < b.to && b.from < a.to {
				t.Errorf("%s: two lists share memory", what)
				return
			}
		}
	}
}

func TestReadIsNewMemory(t *testing.T) {
	p := wholeProg()
	s := "{" + "data T=A|B Int Bool(T->Int->U);data U=C T U;" + decsByHand(p.Decs)[1:]
	wantReadProg(t, s, p)
	first, _ := impl.ParseProg(s)
	sharesNothing(t, s, reflect.ValueOf(first))
	for i := range changes(reflect.ValueOf(&first).Elem()) {
		changed, _ := impl.ParseProg(s)
		changes(reflect.ValueOf(&changed).Elem())[i]()
		if i%20 == 0 {
			wantReadProg(t, s, p)
		}
	}
	if told(first) != told(p) {
		t.Error("an answer was changed by a later call")
	}
	e, ok := impl.ParseExp(byHand(wholeExp()))
	sharesNothing(t, "wholeExp", reflect.ValueOf(e))
	if !ok || told(e) != told(wholeExp()) {
		t.Errorf("%+v, %v", e, ok)
	}
}
