package tests

import (
	"math"
	"math/rand"
	"reflect"
	"strconv"
	"strings"
	"testing"

	"loop.example/g00471/impl"
)

func wantExpText(t *testing.T, e impl.Exp, in int, want string) {
	t.Helper()
	if got := impl.ExpText(e, in); got != want {
		t.Errorf("ExpText(%+v, %d) = %q; want %q", e, in, got, want)
	}
}

func TestExpTextOfEachKind(t *testing.T) {
	x, y := vr("x"), vr("y")
	for want, e := range map[string]impl.Exp{
		"x":                                   x,
		"True":                                great("True"),
		"0":                                   num(0),
		"999999":                              num(999999),
		"x y":                                 app(x, y),
		"x y A 3":                             app(app(app(x, y), great("A")), num(3)),
		`\x -> \_ -> x y`:                     lam("x", lam("_", app(x, y))),
		"if x then y else A":                  ifs(x, y, great("A")),
		"if x then y else if y then x else 1": ifs(x, y, ifs(y, x, num(1))),
		"x + y":                               op("+", x, y),
		"x - y":                               op("-", x, y),
		"x * y":                               op("*", x, y),
		"x == y":                              op("==", x, y),
		"x < y":                               op("<", x, y),
		"let\n  a = 1\nin x":                  let(x, dec("a", num(1))),
		"let\n  a = 1\n  b p _ = 2\nin x y":   let(app(x, y), dec("a", num(1)), dec("b", num(2), "p", "_")),
		"case x of\n  A -> y\n  B p _ -> 1\n  q -> 2\n  _ -> 3": caseOf(x,
			alt("A", y), alt("B", num(1), "p", "_"), alt("", num(2), "q"), alt("", num(3), "_")),
		"let\n  a = let\n      b = 1\n    in b\n    where\n      c = 2\n      d = case x of\n          A -> y\nin let\n  e = 3\nin e": let(
			let(vr("e"), dec("e", num(3))),
			with(dec("a", let(vr("b"), dec("b", num(1)))), dec("c", num(2)), dec("d", caseOf(x, alt("A", y))))),
		"case x of\n  A -> case y of\n      B -> let\n          a = 1\n        in a\n  _ -> \\z -> case z of\n      C -> 1": caseOf(x,
			alt("A", caseOf(y, alt("B", let(vr("a"), dec("a", num(1)))))), alt("", lam("z", caseOf(vr("z"), alt("C", num(1)))), "_")),
		"x (let\n  a = 1\nin a) y": app(app(x, let(vr("a"), dec("a", num(1)))), y),
	} {
		for _, in := range []int{0, 1, 2, 59, 60} {
			wantExpText(t, e, in, strings.ReplaceAll(want, "\n", "\n"+strings.Repeat(" ", in)))
		}
	}
}

func TestExpTextBrackets(t *testing.T) {
	a, b, c := vr("a"), vr("b"), vr("c")
	for want, e := range map[string]impl.Exp{
		"a (b c)":                         app(a, app(b, c)),
		"a b c":                           app(app(a, b), c),
		"(a + b) c":                       app(op("+", a, b), c),
		"a (b * c)":                       app(a, op("*", b, c)),
		"a - b - c":                       op("-", op("-", a, b), c),
		"a - (b - c)":                     op("-", a, op("-", b, c)),
		"a + (b - c)":                     op("+", a, op("-", b, c)),
		"a - b + c":                       op("+", op("-", a, b), c),
		"a * b * c":                       op("*", op("*", a, b), c),
		"a * (b * c)":                     op("*", a, op("*", b, c)),
		"(a + b) * c":                     op("*", op("+", a, b), c),
		"a * (b - c)":                     op("*", a, op("-", b, c)),
		"a * b + c":                       op("+", op("*", a, b), c),
		"a + b * c":                       op("+", a, op("*", b, c)),
		"a b * c":                         op("*", app(a, b), c),
		"a * b c":                         op("*", a, app(b, c)),
		"a + b == c":                      op("==", op("+", a, b), c),
		"a < b * c":                       op("<", a, op("*", b, c)),
		"(a == b) < c":                    op("<", op("==", a, b), c),
		"a == (b < c)":                    op("==", a, op("<", b, c)),
		"(a == b) + c":                    op("+", op("==", a, b), c),
		"a - (b < c)":                     op("-", a, op("<", b, c)),
		"a * (b == c)":                    op("*", a, op("==", b, c)),
		"if a == b then a + b else a < b": ifs(op("==", a, b), op("+", a, b), op("<", a, b)),
		"case a b of\n  A -> a + b":       caseOf(app(a, b), alt("A", op("+", a, b))),
	} {
		wantExpText(t, e, 0, want)
	}
	for text, long := range map[string]impl.Exp{
		`\x -> a`:             lam("x", a),
		"let\n  d = b\nin a":  let(a, dec("d", b)),
		"case a of\n  A -> b": caseOf(a, alt("A", b)),
		"if a then b else c":  ifs(a, b, c),
	} {
		for frame, e := range map[string]impl.Exp{
			"(%) a": app(long, a), "a (%)": app(a, long), "(%) + a": op("+", long, a), "a - (%)": op("-", a, long),
			"(%) * a": op("*", long, a), "a == (%)": op("==", a, long), "(%) < a": op("<", long, a),
			"if (%) then b else c": ifs(long, b, c), "if a then (%) else c": ifs(a, long, c), "if a then b else %": ifs(a, b, long),
			"case (%) of\n  A -> b": caseOf(long, alt("A", b)), `\x -> %`: lam("x", long), "let\n  d = b\nin %": let(long, dec("d", b)),
		} {
			wantExpText(t, e, 0, strings.ReplaceAll(frame, "%", text))
		}
		inner := strings.ReplaceAll(text, "\n", "\n    ")
		wantExpText(t, let(a, dec("d", long, "p")), 0, "let\n  d p = "+inner+"\nin a")
		wantExpText(t, caseOf(a, alt("A", long, "p")), 0, "case a of\n  A p -> "+inner)
	}
}

func TestExpTextOfOthers(t *testing.T) {
	for _, in := range []int{-1, 61, math.MinInt, math.MaxInt} {
		wantExpText(t, num(1), in, "")
		wantExpText(t, caseOf(vr("x"), alt("A", num(1))), in, "")
	}
	for _, e := range []impl.Exp{{}, {K: 10}, {K: -1}, vr(""), vr("A"), vr("_"), num(-1), num(1000000), app(num(1), impl.Exp{}), {K: impl.EApp, L: []impl.Exp{num(1)}}, let(num(1)), caseOf(num(1)), chain(13), op("/", num(1), num(2)), {K: impl.EVar, S: "x", N: 1}} {
		wantExpText(t, e, 0, "")
	}
	wantExpText(t, chain(12), 0, strings.Repeat(`\_ -> `, 11)+"1")
}

func TestExpTextIsReadAgain(t *testing.T) {
	r := rand.New(rand.NewSource(6))
	read := 0
	for i := range 3000 {
		e := rightExp(r, 1+i%6)
		s := impl.ExpText(e, 0)
		if _, ok := impl.Lex(s); !ok || s == "" {
			continue
		}
		read++
		wantReadExp(t, s, e)
		wantReadProg(t, "main = "+impl.ExpText(e, 2), impl.Prog{Decs: decs(dec("main", e))})
	}
	if read < 1500 {
		t.Error("too few to tell", read)
	}
}

// atMargin answers s with all its lines but the first moved in by so many blanks.
func atMargin(s string, in int) string {
	return strings.ReplaceAll(s, "\n", "\n"+strings.Repeat(" ", in))
}

// A place is where an Exp can stand: in what, and how that is written, with % for it.
// A place that is open is one of those where even what goes on and on stands without brackets.
type place struct {
	of   func(e impl.Exp) impl.Exp
	text string
	in   int
	open bool
}

func places() []place {
	a, b, c := vr("a"), vr("b"), vr("c")
	l := []place{
		{of: func(e impl.Exp) impl.Exp { return app(e, a) }, text: "% a"},
		{of: func(e impl.Exp) impl.Exp { return app(a, e) }, text: "a %"},
		{of: func(e impl.Exp) impl.Exp { return caseOf(e, alt("A", b)) }, text: "case % of\n  A -> b"},
		{of: func(e impl.Exp) impl.Exp { return ifs(e, b, c) }, text: "if % then b else c"},
		{of: func(e impl.Exp) impl.Exp { return ifs(a, e, c) }, text: "if a then % else c"},
		{of: func(e impl.Exp) impl.Exp { return ifs(a, b, e) }, text: "if a then b else %", open: true},
		{of: func(e impl.Exp) impl.Exp { return lam("x", e) }, text: `\x -> %`, open: true},
		{of: func(e impl.Exp) impl.Exp { return let(e, dec("d", b)) }, text: "let\n  d = b\nin %", open: true},
		{of: func(e impl.Exp) impl.Exp { return let(a, dec("d", e, "p"), dec("q", b)) }, text: "let\n  d p = %\n  q = b\nin a", in: 4, open: true},
		{of: func(e impl.Exp) impl.Exp { return let(a, with(dec("d", e), dec("q", b))) }, text: "let\n  d = %\n    where\n      q = b\nin a", in: 4, open: true},
		{of: func(e impl.Exp) impl.Exp { return let(a, with(dec("d", b), dec("q", e), dec("r", c))) }, text: "let\n  d = b\n    where\n      q = %\n      r = c\nin a", in: 8, open: true},
		{of: func(e impl.Exp) impl.Exp { return caseOf(a, alt("A", e, "p"), alt("", b, "_")) }, text: "case a of\n  A p -> %\n  _ -> b", in: 4, open: true},
		{of: func(e impl.Exp) impl.Exp { return caseOf(a, alt("A", b), alt("", e, "q")) }, text: "case a of\n  A -> b\n  q -> %", in: 4, open: true},
	}
	for _, s := range []string{"+", "-", "*", "==", "<"} {
		l = append(l,
			place{of: func(e impl.Exp) impl.Exp { return op(s, e, a) }, text: "% " + s + " a"},
			place{of: func(e impl.Exp) impl.Exp { return op(s, a, e) }, text: "a " + s + " %"})
	}
	return l
}

// pieces answers Exps of each kind with their texts, and whether they go on and on, so that their end is told by what is behind.
func pieces() (exps []impl.Exp, texts []string, long []bool) {
	put := func(e impl.Exp, text string, isLong bool) {
		exps, texts, long = append(exps, e), append(texts, text), append(long, isLong)
	}
	f, g := vr("f"), vr("g")
	put(f, "f", false)
	put(great("F"), "F", false)
	put(num(7), "7", false)
	put(app(f, g), "f g", false)
	put(lam("y", f), `\y -> f`, true)
	put(let(f, dec("w", g), dec("v", f)), "let\n  w = g\n  v = f\nin f", true)
	put(let(f, with(dec("w", g), dec("v", f))), "let\n  w = g\n    where\n      v = f\nin f", true)
	put(caseOf(f, alt("F", g, "y"), alt("", f, "_")), "case f of\n  F y -> g\n  _ -> f", true)
	put(ifs(f, g, f), "if f then g else f", true)
	for _, s := range []string{"+", "-", "*", "==", "<"} {
		put(op(s, f, g), "f "+s+" g", false)
	}
	return exps, texts, long
}

// Brackets stand just where what is written without them is not read as it was;
// but for what is looked at or asked, and behind then, where what goes on and on has them always.
func TestBracketsJustWhereTheyMustBe(t *testing.T) {
	exps, texts, long := pieces()
	with, without := 0, 0
	for _, p := range places() {
		for i, x := range exps {
			e := p.of(x)
			inner := atMargin(texts[i], p.in)
			want := strings.ReplaceAll(p.text, "%", inner)
			read, ok := impl.ParseExp(want)
			if ok && impl.SameExp(read, e) && (p.open || !long[i]) {
				without++
			} else {
				want = strings.ReplaceAll(p.text, "%", "("+inner+")")
				with++
			}
			if p.open && strings.Contains(want, "(") {
				t.Errorf("%q is not read", want)
			}
			for _, in := range []int{0, 3, 60} {
				wantExpText(t, e, in, atMargin(want, in))
			}
			wantReadExp(t, want, e)
		}
	}
	// Without: 4 called, 3 handed to a call, 9 in each of three places, all 14 in eight, and 61 at the operators.
	if with != 115 || without != 207 {
		t.Error("with and without brackets:", with, without)
	}
}

// All that can stand in each other, three deep, comes back by its margin: alone, and in a definition of each place.
func TestBlocksInBlocksAreReadAgain(t *testing.T) {
	exps, _, long := pieces()
	for i, x := range exps {
		if !long[i] {
			continue
		}
		for _, outer := range places() {
			for _, inner := range places() {
				e := outer.of(inner.of(x))
				wantReadExp(t, impl.ExpText(e, 0), e)
				wantReadExp(t, impl.ExpText(e, 60), e)
				top := impl.Prog{Decs: decs(with(dec("m", e), dec("n", num(1)), dec("o", e)), dec("last", num(2)))}
				wantReadProg(t, impl.ProgText(top), top)
			}
		}
	}
}

func wantDecText(t *testing.T, d impl.Dec, in int, want string) {
	t.Helper()
	if got := impl.DecText(d, in); got != want {
		t.Errorf("DecText(%+v, %d) = %q; want %q", d, in, got, want)
	}
}

func TestDecText(t *testing.T) {
	a, b := vr("a"), vr("b")
	for want, d := range map[string]impl.Dec{
		"f = 1":                          dec("f", num(1)),
		"f x = a b":                      dec("f", app(a, b), "x"),
		"f x _ y _ = a == b":             dec("f", op("==", a, b), "x", "_", "y", "_"),
		"f = \\x -> a":                   dec("f", lam("x", a)),
		"f = if a then b else a":         dec("f", ifs(a, b, a)),
		"f x = a\n  where\n    a = 1":    with(dec("f", a, "x"), dec("a", num(1))),
		"f = let\n    a = 1\n  in a":     dec("f", let(a, dec("a", num(1)))),
		"f = case a of\n    A x -> b":    dec("f", caseOf(a, alt("A", b, "x"))),
		"f = b (let\n    a = 1\n  in a)": dec("f", app(b, let(a, dec("a", num(1))))),
		"f = a\n  where\n    a x = 1\n    b = 2\n    c _ _ = 3": with(dec("f", a), dec("a", num(1), "x"), dec("b", num(2)), dec("c", num(3), "_", "_")),
		"f = a\n  where\n    a = b\n      where\n        b = c\n          where\n            c = 1\n    d = 2": with(dec("f", a),
			with(dec("a", b), with(dec("b", vr("c")), dec("c", num(1)))), dec("d", num(2))),
		"f = case a of\n    A -> b\n    _ -> a\n  where\n    a = let\n        b = 1\n      in b\n      where\n        b = case a of\n            x -> x": with(
			dec("f", caseOf(a, alt("A", b), alt("", a, "_"))),
			with(dec("a", let(b, dec("b", num(1)))), dec("b", caseOf(a, alt("", vr("x"), "x"))))),
	} {
		for _, in := range []int{0, 1, 2, 7, 59, 60} {
			wantDecText(t, d, in, strings.Repeat(" ", in)+atMargin(want, in))
		}
		for _, in := range []int{-1, 61, 62, math.MinInt, math.MaxInt} {
			wantDecText(t, d, in, "")
		}
		wantReadProg(t, impl.DecText(d, 0), impl.Prog{Decs: decs(d)})
		wantReadProg(t, impl.DecText(d, 60), impl.Prog{Decs: decs(d)})
	}
	d := dec("f", num(1))
	d.Pars, d.Where = []string{}, []impl.Dec{}
	wantDecText(t, d, 2, "  f = 1")
}

func TestDecTextOfOthers(t *testing.T) {
	one := num(1)
	for _, d := range []impl.Dec{
		{}, {Name: "f"}, dec("", one), dec("_", one), dec("F", one), dec("let", one), dec("ninesigns", one),
		dec("f", one, "x", "x"), dec("f", one, "a", "b", "c", "d", "e"), dec("f", one, "X"), dec("f", one, ""), dec("f", vr("_")), dec("f", num(1000000)),
		dec("f", impl.Exp{}), dec("f", chain(13)), with(dec("f", one), impl.Dec{}), with(dec("f", one), dec("a", one), dec("a", one)),
		with(dec("f", one), numbered(7)...), with(dec("f", one), dec("a", chain(12))), dec("f", sized(201)), with(dec("f", sized(100)), dec("g", sized(101))), wheres(13),
		dec("f", impl.Exp{K: impl.ENum, N: 1, S: "x"}), dec("f", let(one)), dec("f", caseOf(one)),
	} {
		wantDecs(t, "DecText of others", decs(d), false)
		wantDecText(t, d, 0, "")
		wantDecText(t, d, 4, "")
		wantProgText(t, impl.Prog{Decs: decs(d)}, "")
		wantProgText(t, impl.Prog{Decs: decs(dec("main", one), d)}, "")
		wantExpText(t, let(one, d), 0, "")
	}
}

func wantProgText(t *testing.T, p impl.Prog, want string) {
	t.Helper()
	if got := impl.ProgText(p); got != want {
		t.Errorf("ProgText(%+v) = %q; want %q", p, got, want)
	}
}

func TestProgText(t *testing.T) {
	for want, p := range map[string]impl.Prog{
		"main = 0\n":                              progOf(),
		"data T = A\nmain = 0\n":                  progOf(data("T", con("A"))),
		"data T = T | B | C\nmain = 0\n":          progOf(data("T", con("T"), con("B"), con("C"))),
		"data T = A\ndata U = U T\nmain = 0\n":    progOf(data("T", con("A")), data("U", con("U", tyData("T")))),
		"a = 1\nb x = 2\nc _ = 3\n":               {Decs: decs(dec("a", num(1)), dec("b", num(2), "x"), dec("c", num(3), "_"))},
		"data T = A Int Bool T U | B\nmain = 0\n": progOf(data("T", con("A", tyInt(), tyBool(), tyData("T"), tyData("U")), con("B"))),
		"data T = A | B Int Bool (T -> Int -> U)\ndata U = C T U\n" +
			"f p q _ = let\n    a y = \\x -> x\n    b = 5\n  in a b\n  where\n    g r s = 1\n    h = p + q\n      where\n        i = A\n" +
			"k x = case x of\n    B u v _ -> 1\n    A -> 2\n    w -> f 3\n" +
			"main = if 1 == 2 then True else 3 < 4\n": wholeProg(),
	} {
		wantProgText(t, p, want)
		wantReadProg(t, want, p)
	}
}

func TestProgTextOfTypes(t *testing.T) {
	i, b, d := tyInt(), tyBool(), tyData("Tree")
	for want, ty := range map[string]impl.Ty{
		"Int":                               i,
		"Bool":                              b,
		"Tree":                              d,
		"True":                              tyData("True"),
		"(Int -> Bool)":                     tyFun(i, b),
		"(Int -> Bool -> Tree)":             tyFun(i, tyFun(b, d)),
		"((Int -> Bool) -> Tree)":           tyFun(tyFun(i, b), d),
		"((Int -> Bool) -> Tree -> Int)":    tyFun(tyFun(i, b), tyFun(d, i)),
		"(Int -> (Bool -> Tree) -> Int)":    tyFun(i, tyFun(tyFun(b, d), i)),
		"(((Int -> Bool) -> Tree) -> Int)":  tyFun(tyFun(tyFun(i, b), d), i),
		"((Int -> Bool -> Tree) -> Int)":    tyFun(tyFun(i, tyFun(b, d)), i),
		"(Int -> Int -> Int -> Int -> Int)": arrows(5),
		"((((Int -> Int) -> Int) -> Int) -> Int)": leftArrows(5),
	} {
		p := progOf(data("Tree", con("A", ty), con("B", i, ty, ty, b)))
		text := "data Tree = A " + want + " | B Int " + want + " " + want + " Bool\nmain = 0\n"
		wantProgText(t, p, text)
		wantReadProg(t, text, p)
	}
	for _, ty := range []impl.Ty{{}, {K: 6}, {K: -1}, {K: impl.TVar}, tyData(""), tyData("Int"), tyData("Bool"), tyData("t"), tyFun(i, impl.Ty{K: impl.TVar}), arrows(6), leftArrows(6), {K: impl.TInt, N: 1}, {K: impl.TBool, S: "x"}, {K: impl.TFun, L: []impl.Ty{i}}, {K: impl.TFun}, {K: impl.TFun, L: []impl.Ty{i, i, i}}, {K: impl.TData, S: "T", L: []impl.Ty{i}}} {
		wantProgText(t, progOf(data("Tree", con("A", ty))), "")
		wantProgText(t, progOf(data("Tree", con("A", i, i), con("B", i, ty))), "")
	}
}

func TestProgTextOfOthers(t *testing.T) {
	some := decs(dec("main", num(0)))
	for _, p := range []impl.Prog{
		{}, {Decs: []impl.Dec{}}, {Datas: []impl.Data{data("T", con("A"))}}, {Decs: numbered(13)}, {Decs: append(numbered(2), dec("d1", num(1)))},
		progOf(data("T")), progOf(data("t", con("A"))), progOf(data("T", con("a"))), progOf(data("Int", con("A"))), progOf(data("T", con("True"))),
		progOf(data("T", con("A")), data("T", con("B"))), progOf(data("T", con("A")), data("U", con("A"))), progOf(impl.Data{}),
		progOf(data("T", con("A"), con("B"), con("C"), con("D"), con("E"), con("F"))), progOf(data("T", con("A", tyInt(), tyInt(), tyInt(), tyInt(), tyInt()))),
		{Decs: some, Datas: numberedDatas(6)}, {Decs: decs(dec("a", sized(100)), dec("b", sized(101)))},
	} {
		wantProgText(t, p, "")
	}
}

func numberedDatas(n int) []impl.Data {
	l := []impl.Data{}
	for i := range n {
		l = append(l, data("T"+strconv.Itoa(i), con("C"+strconv.Itoa(i))))
	}
	return l
}

// What just passes no limit is written, and read again; what passes one by one is not written.
func TestTextsAtTheLimits(t *testing.T) {
	for _, d := range []impl.Dec{
		dec("eightlet", num(999999), "eightle1", "b", "c", "d"), dec("f", chain(12)), wheres(12), with(dec("f", num(1)), dec("g", chain(11))),
		with(dec("f", num(1)), numbered(6)...), dec("f", let(num(1), numbered(6)...)),
		dec("f", caseOf(num(1), alt("A", num(1)), alt("B", num(2)), alt("C", num(3), "a", "_", "_", "d"), alt("", num(4), "a"), alt("", num(5), "_"), alt("Eightlet", num(6)))),
	} {
		wantReadAgain(t, impl.Prog{Decs: decs(d)})
		if s := impl.DecText(d, 0); impl.ProgText(impl.Prog{Decs: decs(d)}) != s+"\n" || s == "" {
			t.Errorf("DecText(%+v, 0) = %q", d, s)
		}
	}
	wantReadAgain(t, impl.Prog{Decs: numbered(12)})
	wantReadAgain(t, impl.Prog{Datas: numberedDatas(5), Decs: numbered(12)})
	wantReadAgain(t, progOf(data("T", con("A"), con("B"), con("C"), con("D"), con("Eightlet", tyInt(), tyBool(), arrows(5), leftArrows(5)))))
	for _, e := range []impl.Exp{chain(12), let(num(1), dec("a", chain(10))), let(chain(11), dec("a", num(1))), caseOf(num(1), alt("A", chain(11)))} {
		wantReadExp(t, impl.ExpText(e, 0), e)
	}
	for _, e := range []impl.Exp{chain(13), let(num(1), dec("a", chain(11))), let(chain(12), dec("a", num(1))), caseOf(num(1), alt("A", chain(12)))} {
		wantExpText(t, e, 0, "")
	}
}

func TestTextsOf200Exps(t *testing.T) {
	few := "1" + strings.Repeat(" + 1", 9)
	let6 := "let\n  " + listed(6, "\n  ", func(i int) string { return "s" + strconv.Itoa(i) + " = " + few }) + "\nin "
	text := let6 + "case " + few + " of\n  A -> " + few + "\n  B -> " + few + "\n  C -> " + few + "\n  _ -> \\_ -> \\_ -> \\_ -> 1 + 2 * 3"
	e, ok := impl.ParseExp(text)
	if !ok || impl.Size(e) != 200 {
		t.Fatalf("%q: %v, of %d Exps", text, ok, impl.Size(e))
	}
	wantExpText(t, e, 0, text)
	last := &e.L[0].Alts[3].E
	*last = lam("_", *last)
	wantExpText(t, e, 0, "")
	all := sums(17, 17, 17, 17, 17, 17, 17, 17, 17, 17, 17) + "\nmain = \\_ -> \\_ -> 1 - 1 - 1 - 1 - 1 - 1\n"
	p, ok := impl.ParseProg(all)
	if !ok {
		t.Fatalf("%q is not read", all)
	}
	wantProgText(t, p, all)
	p.Decs[0].Where = numbered(1)
	wantProgText(t, p, "")
	// What is right is written, though it has too many signs to be read.
	if s := impl.ExpText(sized(200), 0); s == "" || mayBeRead(s) || impl.DecText(dec("f", sized(200)), 0) != "f = "+s {
		t.Errorf("%q", s)
	}
	wantExpText(t, sized(201), 0, "")
}

// deepest answers an Exp of 12 deep, by the same place again and again.
func deepest(p place) impl.Exp {
	e := num(1)
	for impl.ExpOk(p.of(e)) {
		e = p.of(e)
	}
	return e
}

func TestTheDeepestAreReadAgain(t *testing.T) {
	for _, p := range places() {
		e := deepest(p)
		for _, in := range []int{0, 60} {
			if s := impl.ExpText(e, in); mayBeRead(s) {
				wantReadExp(t, s, e)
			} else if in == 0 {
				t.Errorf("%q is too long", s)
			}
		}
		wantExpText(t, p.of(e), 0, "")
	}
}

// mayBeRead: no text is longer than what is read at all.
func mayBeRead(s string) bool {
	_, ok := impl.Lex(s)
	return ok
}

func wantReadAgain(t *testing.T, p impl.Prog) {
	t.Helper()
	s := impl.ProgText(p)
	read, ok := checkProgRead(t, s)
	if !ok || !impl.SameProg(read, p) {
		t.Errorf("ParseProg(%q) = %+v, %v; want %+v", s, read, ok, p)
	}
	if again := impl.ProgText(read); again != s {
		t.Errorf("%q is written again as %q", s, again)
	}
}

// rightTy answers a Ty of a Con that is so deep at most.
func rightTy(r *rand.Rand, deep int) impl.Ty {
	if kind := r.Intn(5); kind < 3 && deep > 1 {
		return tyFun(rightTy(r, deep-1), rightTy(r, deep-1))
	}
	return []impl.Ty{tyInt(), tyBool(), tyData("T0"), tyData("False")}[r.Intn(4)]
}

func rightDatas(r *rand.Rand) []impl.Data {
	l := numberedDatas(r.Intn(3))
	for i := range l {
		for c := range 1 + r.Intn(3) {
			one := con(string(rune('A'+i)) + strconv.Itoa(c))
			for range r.Intn(4) {
				one.Args = append(one.Args, rightTy(r, 3))
			}
			l[i].Cons = append(l[i].Cons, one)
		}
	}
	return l
}

func TestProgramsAreReadAgain(t *testing.T) {
	r := rand.New(rand.NewSource(7))
	read, long := 0, 0
	for i := range 4000 {
		p := impl.Prog{Datas: rightDatas(r), Decs: append(rightDecs(r, 1+i%5), dec("main", rightExp(r, 1+i%6)))}
		s := impl.ProgText(p)
		switch l, ok := impl.Lex(s); {
		case !impl.ProgOk(p):
			wantProgText(t, p, "")
		case ok:
			read++
			wantReadAgain(t, p)
		default:
			long++
			if len(s) <= 1500 && strings.Count(s, " ") < 200 {
				t.Errorf("%q is not made of signs: %v", s, l)
			}
		}
	}
	if read < 2000 || long > 1500 {
		t.Error("too few to tell", read, long)
	}
}

// What is read of any text, written, and read again is the same, whatever its layout was.
func TestWhatIsReadIsWrittenAndReadAgain(t *testing.T) {
	texts := []string{
		"{f x=1;data T=A|B Int;g=h where{h=2};main=3;data U=C}",
		"f x\n  = 1\ng = h\n  where\n    h\n     = 2\nmain\n = 3\ndata T\n = A\n | B\n    ((Int) -> ((Int -> T)))\n",
		"main = let x = 1 ; y = case x of { A -> 1 ; B z -> let { w = z } in w } in if x\n   then y -- aside\n   else (((x)))",
		"main = case case x of y -> y of { A -> if if a then b else c then \\x -> x else \\y -> \\_ -> let { z = 1 } in z }",
		"main = ((a + b) + c) - (d * (e * (f (g) (h i)))) == (1 < 2)",
		"a = (case b of c -> d) + (let e = 1 in e) * (if f then g else h) where b = (\\x -> x) (\\y -> y)",
	}
	r := rand.New(rand.NewSource(8))
	for i := range 1500 {
		texts = append(texts, decsByHand(rightDecs(r, 2+i%4)))
	}
	read := 0
	for _, s := range texts {
		p, ok := impl.ParseProg(s)
		if !ok || !mayBeRead(impl.ProgText(p)) {
			continue
		}
		read++
		wantReadAgain(t, p)
		for _, d := range p.Decs {
			wantReadExp(t, impl.ExpText(d.E, 0), d.E)
		}
	}
	if read < 1000 {
		t.Error("too few to tell", read)
	}
	for _, s := range texts[:6] {
		if p, ok := impl.ParseProg(s); !ok || impl.ProgText(p) == "" {
			t.Errorf("%q is not read", s)
		}
	}
}

// No line ends with a blank, none is empty, and each begins with an even margin.
func TestLinesOfProgText(t *testing.T) {
	r := rand.New(rand.NewSource(9))
	for i := range 500 {
		p := impl.Prog{Datas: rightDatas(r), Decs: rightDecs(r, 2+i%4)}
		s := impl.ProgText(p)
		if s == "" {
			continue
		}
		lines := strings.Split(s, "\n")
		if lines[len(lines)-1] != "" {
			t.Errorf("%q does not end with a byte 10", s)
		}
		for _, line := range lines[:len(lines)-1] {
			margin := len(line) - len(strings.TrimLeft(line, " "))
			if line == "" || strings.HasSuffix(line, " ") || margin%2 != 0 {
				t.Errorf("%q: the line %q", s, line)
			}
		}
	}
}

func TestNothingIsWrittenIntoWhatIsTold(t *testing.T) {
	p := roomy(reflect.ValueOf(wholeProg())).Interface().(impl.Prog)
	ahead := toldWithRoom(reflect.ValueOf(p))
	want := impl.ProgText(wholeProg())
	for range 2 {
		wantProgText(t, p, want)
	}
	var l []string
	for _, d := range p.Decs {
		l = append(l, impl.DecText(d, 0)+"\n")
		wantExpText(t, d.E, 2, impl.ExpText(d.E, 2))
	}
	if strings.Join(l, "") != want[strings.Index(want, "f p q"):] {
		t.Errorf("%q of %q", l, want)
	}
	if toldWithRoom(reflect.ValueOf(p)) != ahead {
		t.Error("an argument was changed")
	}
}
