package tests

import (
	"math"
	"math/rand"
	"strings"
	"testing"

	"loop.example/g00471/impl"
)

func wantExpText(t *testing.T, e impl.Exp, in int, want string) {
	t.Helper()
	if got := impl.ExpText(e, in); got != want {
		t.Errorf("ExpText(%+v, %d) = %q; want %q", e, in, got, want)
	}
}

func TestExpTextOfEachKind(t *testing.T) {
	x, y := vr("x"), vr("y")
	for want, e := range map[string]impl.Exp{
		"x":                                   x,
		"True":                                great("True"),
		"0":                                   num(0),
		"999999":                              num(999999),
		"x y":                                 app(x, y),
		"x y A 3":                             app(app(app(x, y), great("A")), num(3)),
		`\x -> \_ -> x y`:                     lam("x", lam("_", app(x, y))),
		"if x then y else A":                  ifs(x, y, great("A")),
		"if x then y else if y then x else 1": ifs(x, y, ifs(y, x, num(1))),
		"x + y":                               op("+", x, y),
		"x - y":                               op("-", x, y),
		"x * y":                               op("*", x, y),
		"x == y":                              op("==", x, y),
		"x < y":                               op("<", x, y),
		"let\n  a = 1\nin x":                  let(x, dec("a", num(1))),
		"let\n  a = 1\n  b p _ = 2\nin x y":   let(app(x, y), dec("a", num(1)), dec("b", num(2), "p", "_")),
		"case x of\n  A -> y\n  B p _ -> 1\n  q -> 2\n  _ -> 3": caseOf(x,
			alt("A", y), alt("B", num(1), "p", "_"), alt("", num(2), "q"), alt("", num(3), "_")),
		"let\n  a = let\n      b = 1\n    in b\n    where\n      c = 2\n      d = case x of\n          A -> y\nin let\n  e = 3\nin e": let(
			let(vr("e"), dec("e", num(3))),
			with(dec("a", let(vr("b"), dec("b", num(1)))), dec("c", num(2)), dec("d", caseOf(x, alt("A", y))))),
		"case x of\n  A -> case y of\n      B -> let\n          a = 1\n        in a\n  _ -> \\z -> case z of\n      C -> 1": caseOf(x,
			alt("A", caseOf(y, alt("B", let(vr("a"), dec("a", num(1)))))), alt("", lam("z", caseOf(vr("z"), alt("C", num(1)))), "_")),
		"x (let\n  a = 1\nin a) y": app(app(x, let(vr("a"), dec("a", num(1)))), y),
	} {
		for _, in := range []int{0, 1, 2, 59, 60} {
			wantExpText(t, e, in, strings.ReplaceAll(want, "\n", "\n"+strings.Repeat(" ", in)))
		}
	}
}

func TestExpTextBrackets(t *testing.T) {
	a, b, c := vr("a"), vr("b"), vr("c")
	for want, e := range map[string]impl.Exp{
		"a (b c)":                         app(a, app(b, c)),
		"a b c":                           app(app(a, b), c),
		"(a + b) c":                       app(op("+", a, b), c),
		"a (b * c)":                       app(a, op("*", b, c)),
		"a - b - c":                       op("-", op("-", a, b), c),
		"a - (b - c)":                     op("-", a, op("-", b, c)),
		"a + (b - c)":                     op("+", a, op("-", b, c)),
		"a - b + c":                       op("+", op("-", a, b), c),
		"a * b * c":                       op("*", op("*", a, b), c),
		"a * (b * c)":                     op("*", a, op("*", b, c)),
		"(a + b) * c":                     op("*", op("+", a, b), c),
		"a * (b - c)":                     op("*", a, op("-", b, c)),
		"a * b + c":                       op("+", op("*", a, b), c),
		"a + b * c":                       op("+", a, op("*", b, c)),
		"a b * c":                         op("*", app(a, b), c),
		"a * b c":                         op("*", a, app(b, c)),
		"a + b == c":                      op("==", op("+", a, b), c),
		"a < b * c":                       op("<", a, op("*", b, c)),
		"(a == b) < c":                    op("<", op("==", a, b), c),
		"a == (b < c)":                    op("==", a, op("<", b, c)),
		"(a == b) + c":                    op("+", op("==", a, b), c),
		"a - (b < c)":                     op("-", a, op("<", b, c)),
		"a * (b == c)":                    op("*", a, op("==", b, c)),
		"if a == b then a + b else a < b": ifs(op("==", a, b), op("+", a, b), op("<", a, b)),
		"case a b of\n  A -> a + b":       caseOf(app(a, b), alt("A", op("+", a, b))),
	} {
		wantExpText(t, e, 0, want)
	}
	for text, long := range map[string]impl.Exp{
		`\x -> a`:             lam("x", a),
		"let\n  d = b\nin a":  let(a, dec("d", b)),
		"case a of\n  A -> b": caseOf(a, alt("A", b)),
		"if a then b else c":  ifs(a, b, c),
	} {
		for frame, e := range map[string]impl.Exp{
			"(%) a": app(long, a), "a (%)": app(a, long), "(%) + a": op("+", long, a), "a - (%)": op("-", a, long),
			"(%) * a": op("*", long, a), "a == (%)": op("==", a, long), "(%) < a": op("<", long, a),
			"if (%) then b else c": ifs(long, b, c), "if a then (%) else c": ifs(a, long, c), "if a then b else %": ifs(a, b, long),
			"case (%) of\n  A -> b": caseOf(long, alt("A", b)), `\x -> %`: lam("x", long), "let\n  d = b\nin %": let(long, dec("d", b)),
		} {
			wantExpText(t, e, 0, strings.ReplaceAll(frame, "%", text))
		}
		inner := strings.ReplaceAll(text, "\n", "\n    ")
		wantExpText(t, let(a, dec("d", long, "p")), 0, "let\n  d p = "+inner+"\nin a")
		wantExpText(t, caseOf(a, alt("A", long, "p")), 0, "case a of\n  A p -> "+inner)
	}
}

func TestExpTextOfOthers(t *testing.T) {
	for _, in := range []int{-1, 61, math.MinInt, math.MaxInt} {
		wantExpText(t, num(1), in, "")
		wantExpText(t, caseOf(vr("x"), alt("A", num(1))), in, "")
	}
	for _, e := range []impl.Exp{{}, {K: 10}, {K: -1}, vr(""), vr("A"), vr("_"), num(-1), num(1000000), app(num(1), impl.Exp{}), {K: impl.EApp, L: []impl.Exp{num(1)}}, let(num(1)), caseOf(num(1)), chain(13), op("/", num(1), num(2)), {K: impl.EVar, S: "x", N: 1}} {
		wantExpText(t, e, 0, "")
	}
	wantExpText(t, chain(12), 0, strings.Repeat(`\_ -> `, 11)+"1")
}

func TestExpTextIsReadAgain(t *testing.T) {
	r := rand.New(rand.NewSource(6))
	read := 0
	for i := range 3000 {
		e := rightExp(r, 1+i%6)
		s := impl.ExpText(e, 0)
		if _, ok := impl.Lex(s); !ok || s == "" {
			continue
		}
		read++
		wantReadExp(t, s, e)
		wantReadProg(t, "main = "+impl.ExpText(e, 2), impl.Prog{Decs: decs(dec("main", e))})
	}
	if read < 1500 {
		t.Error("too few to tell", read)
	}
}
