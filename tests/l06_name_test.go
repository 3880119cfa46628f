package tests

import (
	"math"
	"math/rand"
	"reflect"
	"slices"
	"strconv"
	"strings"
	"testing"

	"loop.example/g00471/impl"
)

func wantNames(t *testing.T, what string, got []string, want ...string) {
	t.Helper()
	if !slices.Equal(got, want) {
		t.Errorf("%s: %q; want %q", what, got, want)
	}
}

func expOf(t *testing.T, s string) impl.Exp {
	t.Helper()
	e, ok := impl.ParseExp(s)
	if !ok {
		t.Fatalf("%q is not read", s)
	}
	return e
}

func decOf(t *testing.T, s string) impl.Dec {
	t.Helper()
	p, ok := impl.ParseProg(s)
	if !ok || len(p.Decs) != 1 {
		t.Fatalf("%q is not read", s)
	}
	return p.Decs[0]
}

// A naming is a text, and the names that it is to have, with blanks between.
type naming struct{ text, names string }

func wantFree(t *testing.T, l ...naming) {
	t.Helper()
	for _, c := range l {
		wantNames(t, "FreeOf "+c.text, impl.FreeOf(expOf(t, c.text)), strings.Fields(c.names)...)
	}
}

func wantFreeOfDec(t *testing.T, l ...naming) {
	t.Helper()
	for _, c := range l {
		wantNames(t, "FreeOfDec "+c.text, impl.FreeOfDec(decOf(t, c.text)), strings.Fields(c.names)...)
	}
}

func wantBound(t *testing.T, l ...naming) {
	t.Helper()
	for _, c := range l {
		wantNames(t, "BoundOf "+c.text, impl.BoundOf(expOf(t, c.text)), strings.Fields(c.names)...)
	}
}

// progWith has e as the body of its one Dec, of the name top.
func progWith(e impl.Exp) impl.Prog { return impl.Prog{Decs: decs(dec("top", e))} }

func TestFreeOfEachKind(t *testing.T) {
	wantFree(t,
		naming{"x", "x"}, naming{"X", ""}, naming{"7", ""},
		naming{"f x", "f x"}, naming{"x f", "f x"}, naming{"x x", "x"}, naming{"F x 1", "x"},
		naming{`\x -> x`, ""}, naming{`\x -> y`, "y"}, naming{`\x -> y x z`, "y z"},
		naming{"let x = y in z", "y z"}, naming{"let x = 1 in x", ""}, naming{"let x = 1 in y", "y"}, naming{"let x = y in x", "y"},
		naming{"let { f = g ; g = f } in f g h", "h"}, naming{"let { f = g ; g = h } in 1", "h"}, naming{"let { f = i ; g = f } in g h", "h i"},
		naming{"let f a b = a b c in f", "c"},
		naming{"case x of { A -> y }", "x y"}, naming{"case y of { A x -> x }", "y"}, naming{"case 1 of { A -> x ; B -> y ; z -> w }", "w x y"},
		naming{"if a then b else c", "a b c"}, naming{"if 1 then 2 else 3", ""},
		naming{"a + b", "a b"}, naming{"b - a", "a b"}, naming{"a * a", "a"}, naming{"a == b", "a b"}, naming{"a < b", "a b"},
	)
}

// Names bind as far as the chapter says, and no further.
func TestHowFarNamesBind(t *testing.T) {
	wantFree(t,
		// Of a lambda: its body, not what it is called with.
		naming{`(\x -> x) x`, "x"}, naming{`x (\x -> x)`, "x"}, naming{`(\x -> x y) (\y -> x y)`, "x y"},
		// Of a let: its Decs and the body, not what is around.
		naming{"(let x = 1 in x) x", "x"}, naming{"x (let x = 1 in x)", "x"},
		// Of an Alt: its E, neither what is looked at nor another Alt.
		naming{"case x of { A x y -> x y z }", "x z"}, naming{"case x of { x -> x }", "x"}, naming{"case y of { x -> x y }", "y"},
		naming{"case 1 of { A x -> 1 ; B -> x }", "x"}, naming{"case 1 of { B -> x ; A x -> 1 }", "x"}, naming{"case 1 of { x -> 1 ; y -> x }", "x"},
		naming{"case 1 of { A a b c d -> a b c d }", ""}, naming{"case 1 of { A a b c d -> e }", "e"},
		// Of Pars: the Dec, neither another Dec nor the let's body.
		naming{"let f a = a in a", "a"}, naming{"let { f a = 1 ; g = a } in f", "a"}, naming{"let { g = a ; f a = 1 } in f", "a"},
		naming{"let f a b c d = a b c d in 1", ""},
		// Of a Where: the Dec, neither another Dec nor the let's body.
		naming{"let f = w where { w = 1 } in w", "w"}, naming{"let { f = 1 where { w = 1 } ; g = w } in f", "w"}, naming{"let { g = w ; f = 1 where { w = 1 } } in f", "w"},
		// Of a let's Decs: what is in their Wheres, too.
		naming{"let { f = 1 where { w = g } ; g = 1 } in f", ""}, naming{"let { f = 1 where { w = g } } in f", "g"},
	)
	wantFreeOfDec(t,
		naming{"f = 1", ""}, naming{"f = x", "x"}, naming{"f x = x", ""}, naming{"f x y = y x z", "z"},
		naming{"f = w where { w = 1 }", ""}, naming{"f = w v where { w = u }", "u v"}, naming{"f = 1 where { w = u }", "u"},
		naming{"f x = 1 where { w = x }", ""}, naming{"f = 1 where { w x = x ; v = x }", "x"}, naming{"f = x where { w x = 1 }", "x"},
		naming{"f x = 1 where { w y = x y z }", "z"}, naming{"f = 1 where { w = v ; v = w u }", "u"},
		naming{`f x = \y -> let { g = x } in case y of { A z -> g h z }`, "h"},
	)
}

func TestWheresInWheres(t *testing.T) {
	wantFreeOfDec(t,
		naming{"f x = g where { g = h where { h = x } }", ""},
		naming{"f x = g where { g = h where { h = f g h x i } }", "f i"},
		naming{"f = h where { g = 1 where { h = 2 } }", "h"},
		naming{"f = 1 where { g = 1 where { h = 2 } ; i = h }", "h"},
		naming{"f = g where { g a = b where { b = a c } }", "c"},
		naming{"f = g b where { g a = b where { b = a } }", "b"},
		naming{"f = 1 where { g a = 1 where { b c = 1 where { d = a b c d e f g } } ; e = 1 }", "f"},
	)
	wantFree(t,
		naming{"let f x = g where { g = h where { h = f g h x i } } in 1", "i"},
		naming{"let f x = g where { g = h where { h = x } } in f g h x", "g h x"},
	)
}

func TestWhatIsBoundInItself(t *testing.T) {
	// A let's Dec may ask for itself: in its body, and in its Where.
	wantFree(t,
		naming{"let x = x in 1", ""}, naming{"let x = x in x", ""}, naming{"let f x = f x in 1", ""},
		naming{"let f = g where { g = f } in 1", ""}, naming{"let f = 1 where { g = f g } in 1", ""}, naming{"let f = 1 where { g = 1 where { h = f } } in 1", ""},
		naming{"(let x = x in 1) x", "x"},
	)
	// A Dec alone does not bind its own Name: what is around it does.
	wantFreeOfDec(t,
		naming{"f = f", "f"}, naming{"f x = f x", "f"}, naming{"f f = f", ""}, naming{"f = f where { f = 1 }", ""}, naming{"f = 1 where { f = f }", ""},
		naming{`f = \f -> f`, ""}, naming{"f = let f = f in f", ""}, naming{"f = f (let f = f in f)", "f"},
	)
	// A Where's Dec asks for a name of the Pars, for itself, and for the name of the Dec that it is behind.
	wantFreeOfDec(t,
		naming{"f x = y where { y = x }", ""}, naming{"f x = y where { y = y }", ""}, naming{"f x = y where { y = f }", "f"},
		naming{"f x = 1 where { y = f x y z }", "f z"}, naming{"f x = x where { x = x }", ""}, naming{"f x = y where { y x = x y }", ""},
	)
}

func TestTheSameNameWithinAndWithout(t *testing.T) {
	wantFree(t,
		// Bound within and free without, and the other way round.
		naming{`x (\x -> x) x`, "x"}, naming{`\x -> x (\y -> x) y`, "y"}, naming{`\y -> x (\x -> y)`, "x"},
		naming{"let x = y in \\y -> x y", "y"}, naming{`\y -> let x = y in x`, ""}, naming{`case \x -> x of { A -> x }`, "x"}, naming{"if (let x = 1 in x) then x else (case 1 of { x -> x })", "x"},
		// Bound twice, one within the other: behind the inner one the outer one still binds.
		naming{`\x -> \x -> x`, ""}, naming{`\x -> (\x -> x) x`, ""}, naming{`\x -> (\x -> x) (x y)`, "y"}, naming{`(\x -> (\x -> x) x) x`, "x"},
		naming{`\x -> let x = x in x`, ""}, naming{`let x = 1 in \x -> x`, ""}, naming{`\x -> case x of { A x -> x }`, ""}, naming{`\x -> (case x of { A x -> x }) x`, ""},
		naming{"let x = 1 in (let x = 2 in x) x", ""}, naming{"let f x = (\\x -> x) x in x", "x"}, naming{"let f x = x where { x = f } in x", "x"},
	)
	wantFreeOfDec(t,
		naming{`f x = (\x -> x) x`, ""}, naming{"f x = 1 where { g x = x ; h = x }", ""}, naming{"f = g x where { g x = x }", "x"},
	)
}

func TestWithoutAName(t *testing.T) {
	wantFree(t,
		naming{`\_ -> x`, "x"}, naming{`\_ -> 1`, ""}, naming{`\_ -> \x -> \_ -> x y`, "y"},
		naming{"case x of { _ -> y }", "x y"}, naming{"case 1 of { A _ x _ -> x y }", "y"}, naming{"let f _ _ = x in f", "x"}, naming{"let f _ x _ = x where { g _ = y } in f", "y"},
	)
	wantFreeOfDec(t, naming{"f _ = x", "x"}, naming{"f _ x _ = x g where { g _ = y }", "y"})
	wantBound(t,
		naming{`\_ -> x`, ""}, naming{"case x of { _ -> y }", ""}, naming{"case 1 of { A _ x _ -> x y }", "x"},
		naming{"let f _ _ = x in f", "f"}, naming{"let f _ x _ = x where { g _ = y } in f", "f g x"},
	)
	wantNames(t, "NamesOf", impl.NamesOf(progWith(expOf(t, `\_ -> case x of { A _ -> let f _ = 1 in 2 ; _ -> 3 }`))), "f", "top", "x")
	// No right Dec is of this Name, nor is it free in what is right.
	e := let(num(1), dec("_", num(1)))
	wantNames(t, "BoundOf a Dec _", impl.BoundOf(e))
	wantNames(t, "NamesOf a Dec _", impl.NamesOf(impl.Prog{Decs: e.Decs}))
	wantNames(t, "NamesOf a name _", impl.NamesOf(progWith(vr("_"))), "top")
}

func TestBoundOf(t *testing.T) {
	wantBound(t,
		naming{"x", ""}, naming{"X", ""}, naming{"7", ""}, naming{"f x", ""}, naming{"a + b", ""}, naming{"if a then b else c", ""},
		naming{`\x -> y`, "x"}, naming{`\x -> x`, "x"}, naming{`\b -> \a -> \b -> c`, "a b"},
		naming{"let f = 1 in g", "f"}, naming{"let { g = 1 ; f = 2 } in h", "f g"}, naming{"let f b a = c in g", "a b f"},
		naming{"let f a = b where { c d = e where { g h = i } } in j", "a c d f g h"},
		naming{`case x of { A a b -> \c -> d ; d -> e ; _ -> f }`, "a b c d"}, naming{`case \x -> 1 of { B -> 1 }`, "x"},
		naming{`(\a -> 1) (\b -> 2)`, "a b"}, naming{`(\a -> 1) + (\b -> 2)`, "a b"}, naming{`if (\a -> 1) then (\b -> 2) else \c -> 3`, "a b c"},
		naming{`let f = \a -> 1 where { g = \b -> 2 } in \c -> 3`, "a b c f g"},
		naming{`let x x = x where { x = x } in \x -> case x of { A x -> x ; x -> x }`, "x"},
	)
}

func TestNamesOf(t *testing.T) {
	p := wholeProg()
	wantNames(t, "the whole", impl.NamesOf(p), "a", "b", "f", "g", "h", "i", "k", "main", "p", "q", "r", "s", "u", "v", "w", "x", "y")
	p.Datas = nil
	wantNames(t, "without Datas", impl.NamesOf(p), impl.NamesOf(wholeProg())...)
	p, ok := impl.ParseProg("data T = A | B Int\nf x = g y\n  where\n    g _ = x + b\nmain = f (\\z -> case z of\n  B n -> 1\n  m -> 2)")
	if !ok {
		t.Fatal("not read")
	}
	wantNames(t, "of two", impl.NamesOf(p), "b", "f", "g", "m", "main", "n", "x", "y", "z")
	for _, c := range []struct {
		text, names string
	}{
		{"main = 0", "main"}, {"main = main", "main"}, {"f x = 0", "f x"}, {"f = x", "f x"}, {"f = 1 where { g = 2 }", "f g"}, {"f = g where { h i = j }", "f g h i j"},
		{"{ b = 1 ; a = 2 }", "a b"}, {"f = A", "f"}, {"f = let a b = c in d", "a b c d f"}, {"f = case a of { A b -> c ; d -> e }", "a b c d e f"}, {`f = \a -> b + c`, "a b c f"},
	} {
		p, ok := impl.ParseProg(c.text)
		if !ok {
			t.Fatal(c.text)
		}
		wantNames(t, "NamesOf "+c.text, impl.NamesOf(p), strings.Fields(c.names)...)
	}
}

// Each part of each kind is looked at: for what is free, and for what is bound.
func TestNamesInEachPart(t *testing.T) {
	for _, d := range downs {
		for _, outer := range downs {
			free, bound := outer.wrap(d.wrap(vr("zz"))), outer.wrap(d.wrap(lam("zz", vr("zz"))))
			wantNames(t, d.what, impl.FreeOf(free), "zz")
			wantNames(t, d.what, impl.FreeOf(bound))
			if slices.Contains(impl.BoundOf(free), "zz") || !slices.Contains(impl.BoundOf(bound), "zz") {
				t.Errorf("%s in %s: bound %q and %q", d.what, outer.what, impl.BoundOf(free), impl.BoundOf(bound))
			}
			if !slices.Contains(impl.NamesOf(progWith(free)), "zz") || !slices.Contains(impl.NamesOf(progWith(bound)), "zz") {
				t.Errorf("%s in %s: NamesOf", d.what, outer.what)
			}
			wantNames(t, d.what, impl.FreeOfDec(dec("f", free)), "zz")
			wantNames(t, d.what, impl.FreeOfDec(with(dec("f", num(1)), dec("g", free))), "zz")
			wantNames(t, d.what, impl.FreeOfDec(dec("f", free, "zz")))
		}
	}
}

// Byte by byte, a beginning ahead of what goes on, no two alike.
func TestNamesAreAscending(t *testing.T) {
	want := []string{"a", "a0", "a1", "aB", "aa", "aaa", "ab", "b", "bA", "m", "z", "zZ"}
	r := rand.New(rand.NewSource(6))
	for range 50 {
		free, bound := num(1), num(1)
		for _, at := range append(r.Perm(len(want)), r.Perm(len(want))...) {
			free, bound = app(free, vr(want[at])), lam(want[at], bound)
		}
		wantNames(t, "FreeOf", impl.FreeOf(free), want...)
		wantNames(t, "FreeOfDec", impl.FreeOfDec(with(dec("f", num(1)), dec("g", free))), want...)
		wantNames(t, "BoundOf", impl.BoundOf(bound), want...)
		wantNames(t, "NamesOf", impl.NamesOf(impl.Prog{Decs: decs(dec("m", free), dec("z", bound))}), want...)
	}
	// What is no name is ordered by its bytes all the same.
	odd := []string{"", " ", "A", "\u00e9", "\xff", "\xff\x00"}
	e := impl.Exp{K: impl.EApp}
	for _, s := range odd {
		e.L = append([]impl.Exp{vr(s)}, e.L...)
	}
	wantNames(t, "odd names", impl.FreeOf(e), odd...)
}

func TestNoNamesAtAll(t *testing.T) {
	for _, e := range []impl.Exp{{}, num(1), great("A"), op("+", num(1), num(2)), ifs(num(1), num(2), num(3)), caseOf(num(1), alt("A", num(2))), {K: impl.EApp}, {K: impl.ECase}, {K: impl.ELet}, {Alts: []impl.Alt{{}}}} {
		wantNames(t, "FreeOf", impl.FreeOf(e))
		wantNames(t, "BoundOf", impl.BoundOf(e))
		wantNames(t, "FreeOfDec", impl.FreeOfDec(dec("f", e, "x")))
		wantNames(t, "NamesOf", impl.NamesOf(progWith(e)), "top")
	}
	wantNames(t, "FreeOfDec of the zero Dec", impl.FreeOfDec(impl.Dec{}))
	wantNames(t, "NamesOf the zero Prog", impl.NamesOf(impl.Prog{}))
	wantNames(t, "NamesOf Datas alone", impl.NamesOf(impl.Prog{Datas: wholeProg().Datas}))
}

// What is not right is looked at in all its parts, whatever its kind.
func TestNamesOfWhatIsNotRight(t *testing.T) {
	full := func(k int, s string) impl.Exp {
		return impl.Exp{K: k, S: s, N: -1, L: []impl.Exp{vr("a"), vr("b"), vr("f")},
			Decs: decs(dec("f", app(app(vr("f"), vr("a")), vr("p")), "p", "c"), with(dec("g", vr("d")), dec("h", vr("h")))),
			Alts: []impl.Alt{alt("A", app(vr("v"), app(vr("f"), vr("a"))), "v"), {E: vr("e")}, alt("", vr("w"), "x", "w")}}
	}
	for _, c := range []struct {
		k    int
		s    string
		free string
	}{
		// Without an ELam or an ELet nothing binds but Pars, Wheres and Vars.
		{0, "s", "a b d e f"}, {10, "s", "a b d e f"}, {-1, "a", "a b d e f"}, {math.MinInt, "s", "a b d e f"}, {math.MaxInt, "s", "a b d e f"},
		{impl.EVar, "s", "a b d e f s"}, {impl.EVar, "a", "a b d e f"}, {impl.EGreat, "s", "a b d e f"}, {impl.ENum, "s", "a b d e f"}, {impl.EApp, "s", "a b d e f"},
		{impl.ECase, "a", "a b d e f"}, {impl.EIf, "a", "a b d e f"}, {impl.EOp, "s", "a b d e f"},
		// A lambda binds its body, which is all of L; a let's Decs bind themselves and the body; neither binds Alts.
		{impl.ELam, "b", "a d e f"}, {impl.ELam, "a", "a b d e f"}, {impl.ELam, "d", "a b d e f"}, {impl.ELet, "b", "a b d e f"},
	} {
		e := full(c.k, c.s)
		what := "kind " + strconv.Itoa(c.k) + " of " + c.s
		wantNames(t, what, impl.FreeOf(e), strings.Fields(c.free)...)
		wantNames(t, what, impl.FreeOfDec(dec("f", e)), strings.Fields(c.free)...)
		wantNames(t, what, impl.FreeOf(impl.Exp{K: impl.EApp, L: []impl.Exp{num(1), num(2), e}}), strings.Fields(c.free)...)
		bound := []string{"c", "f", "g", "h", "p", "v", "w", "x"}
		if c.k == impl.ELam {
			bound = append(bound, c.s)
			slices.Sort(bound)
		}
		wantNames(t, what, impl.BoundOf(e), bound...)
		names := append(slices.Concat(strings.Fields(c.free), bound), "top")
		slices.Sort(names)
		wantNames(t, what, impl.NamesOf(progWith(e)), slices.Compact(names)...)
	}
	// A let without Alts binds what a kind that is none does not.
	l := full(impl.ELet, "")
	l.Alts = nil
	wantNames(t, "a let", impl.FreeOf(l), "a", "b", "d")
	l.K = 0
	wantNames(t, "no kind", impl.FreeOf(l), "a", "b", "d", "f")
}

func TestNamesOfWrongListsAndTexts(t *testing.T) {
	x, y := vr("x"), vr("y")
	// Parts that are missing.
	wantNames(t, "a lambda without a body", impl.FreeOf(impl.Exp{K: impl.ELam, S: "x"}))
	wantNames(t, "a lambda without a body", impl.BoundOf(impl.Exp{K: impl.ELam, S: "x"}), "x")
	wantNames(t, "a let without Decs", impl.FreeOf(let(x)), "x")
	wantNames(t, "a let without a body", impl.FreeOf(impl.Exp{K: impl.ELet, Decs: decs(dec("x", app(x, y)))}), "y")
	wantNames(t, "a case of Alts alone", impl.FreeOf(impl.Exp{K: impl.ECase, Alts: []impl.Alt{alt("A", app(x, y), "x")}}), "y")
	wantNames(t, "a call of one", impl.FreeOf(impl.Exp{K: impl.EApp, L: []impl.Exp{x}}), "x")
	// Names that are alike, and more of them than there may be.
	wantNames(t, "Pars that are alike", impl.FreeOfDec(dec("f", app(x, y), "x", "x")), "y")
	wantNames(t, "Vars that are alike", impl.FreeOf(caseOf(num(1), alt("A", app(x, y), "y", "z", "y"))), "x")
	wantNames(t, "Decs of one Name", impl.FreeOf(let(x, dec("x", y), dec("x", x))), "y")
	wantNames(t, "Wheres of one Name", impl.FreeOfDec(with(dec("f", x), dec("x", y), dec("x", x))), "y")
	wantNames(t, "nine Pars", impl.FreeOfDec(dec("f", app(x, y), "a", "b", "c", "d", "e", "g", "h", "i", "x")), "y")
	wantNames(t, "nine Vars", impl.FreeOf(caseOf(num(1), alt("", app(x, y), "z", "b", "c", "d", "e", "g", "h", "i", "x"))), "y")
	// What is a great name's stays that, and what a kind does not tell is no name.
	wantNames(t, "a great name that is none", impl.FreeOf(great("x")))
	wantNames(t, "an Alt's", impl.NamesOf(progWith(caseOf(num(1), alt("x", num(1))))), "top")
	wantNames(t, "an operator that is none", impl.NamesOf(progWith(op("x", num(1), num(1)))), "top")
	// What stands in the place of a name is told as it stands there.
	for _, s := range []string{"", "A", "in", "toolongto", "+"} {
		wantNames(t, s, impl.FreeOf(vr(s)), s)
		wantNames(t, s, impl.FreeOf(lam(s, vr(s))))
		wantNames(t, s, impl.BoundOf(lam(s, num(1))), s)
		wantNames(t, s, impl.NamesOf(impl.Prog{Decs: decs(dec(s, num(1)))}), s)
	}
	wantNames(t, "a name _", impl.FreeOf(vr("_")), "_")
}

// freeByHand tells of each name, as it is come upon, whether it is bound by what is around.
func freeByHand(e impl.Exp, around []string, out map[string]int) {
	inBody, inDecs := around, around
	if e.K == impl.EVar && !slices.Contains(around, e.S) {
		out[e.S]++
	}
	if e.K == impl.ELam {
		inBody = slices.Concat(around, []string{e.S})
	}
	if e.K == impl.ELet {
		for _, d := range e.Decs {
			inBody = slices.Concat(inBody, []string{d.Name})
		}
		inDecs = inBody
	}
	for _, x := range e.L {
		freeByHand(x, inBody, out)
	}
	for _, d := range e.Decs {
		freeOfDecByHand(d, inDecs, out)
	}
	for _, a := range e.Alts {
		freeByHand(a.E, slices.Concat(around, a.Vars), out)
	}
}

func freeOfDecByHand(d impl.Dec, around []string, out map[string]int) {
	around = slices.Concat(around, d.Pars)
	for _, w := range d.Where {
		around = slices.Concat(around, []string{w.Name})
	}
	freeByHand(d.E, around, out)
	for _, w := range d.Where {
		freeOfDecByHand(w, around, out)
	}
}

// standing tells the names that stand for something, and those that are bound, wherever they do.
func standing(e impl.Exp, asked, bound map[string]int) {
	if e.K == impl.EVar {
		asked[e.S]++
	}
	if e.K == impl.ELam {
		bound[e.S]++
	}
	for _, x := range e.L {
		standing(x, asked, bound)
	}
	for _, d := range e.Decs {
		standingInDec(d, asked, bound)
	}
	for _, a := range e.Alts {
		for _, s := range a.Vars {
			bound[s]++
		}
		standing(a.E, asked, bound)
	}
}

func standingInDec(d impl.Dec, asked, bound map[string]int) {
	for _, s := range append([]string{d.Name}, d.Pars...) {
		bound[s]++
	}
	standing(d.E, asked, bound)
	for _, w := range d.Where {
		standingInDec(w, asked, bound)
	}
}

// inOrder answers the names of all of these, each once, without those that are left out.
func inOrder(without string, all ...map[string]int) []string {
	l := []string{}
	for _, m := range all {
		for s := range m {
			if s != without {
				l = append(l, s)
			}
		}
	}
	slices.Sort(l)
	return slices.Compact(l)
}

// anyExp answers an Exp of any kind or none, right or not, with any parts.
func anyExp(r *rand.Rand, deep int) impl.Exp {
	names := []string{"a", "b", "c", "d", "_"}
	some := func() []string {
		l := []string{}
		for range r.Intn(3) {
			l = append(l, names[r.Intn(len(names))])
		}
		return l
	}
	var anyDecs func(deep int) []impl.Dec
	anyDecs = func(deep int) []impl.Dec {
		l := []impl.Dec{}
		for range r.Intn(3) {
			d := dec(names[r.Intn(len(names))], anyExp(r, deep-1), some()...)
			if deep > 0 && r.Intn(2) == 0 {
				d.Where = anyDecs(deep - 1)
			}
			l = append(l, d)
		}
		return l
	}
	e := impl.Exp{K: []int{0, 1, 1, 2, 3, 4, 5, 5, 6, 6, 6, 7, 8, 9, 10}[r.Intn(15)], S: names[r.Intn(len(names))]}
	if deep <= 0 {
		return e
	}
	for range r.Intn(4) {
		e.L = append(e.L, anyExp(r, deep-1))
	}
	if e.K == impl.ELet || r.Intn(4) == 0 {
		e.Decs = anyDecs(deep - 1)
	}
	if e.K == impl.ECase || r.Intn(4) == 0 {
		for range r.Intn(3) {
			e.Alts = append(e.Alts, alt([]string{"", "A", "a"}[r.Intn(3)], anyExp(r, deep-1), some()...))
		}
	}
	return e
}

// manyExps answers right ones and such as are not, in turn.
func manyExps(n int) []impl.Exp {
	r := rand.New(rand.NewSource(61))
	l := []impl.Exp{}
	for i := range n {
		if i%2 == 0 {
			l = append(l, rightExp(r, 1+i%6))
		} else {
			l = append(l, anyExp(r, i%5))
		}
	}
	return l
}

func TestNamesOfManyExps(t *testing.T) {
	seen := map[string]int{}
	for _, e := range manyExps(6000) {
		free, freeOfDec, asked, bound := map[string]int{}, map[string]int{}, map[string]int{}, map[string]int{}
		freeByHand(e, nil, free)
		wantNames(t, told(e), impl.FreeOf(e), inOrder("none", free)...)
		d := with(dec("f", e, "a"), dec("b", e, "c"))
		freeOfDecByHand(d, nil, freeOfDec)
		wantNames(t, told(d), impl.FreeOfDec(d), inOrder("none", freeOfDec)...)
		standing(e, asked, bound)
		wantNames(t, told(e), impl.BoundOf(e), inOrder("_", bound)...)
		wantNames(t, told(e), impl.NamesOf(progWith(e)), inOrder("_", asked, bound, map[string]int{"top": 1})...)
		seen[strconv.Itoa(len(free))+" free"]++
		seen[strconv.Itoa(len(asked)-len(free))+" not free"]++
		if t.Failed() {
			return
		}
	}
	for _, s := range []string{"0 free", "1 free", "2 free", "3 free", "4 free", "0 not free", "1 not free", "2 not free"} {
		if seen[s] < 20 {
			t.Error("too few of", s)
		}
	}
}

func without(l []string, names ...string) []string {
	return slices.DeleteFunc(slices.Clone(l), func(s string) bool { return slices.Contains(names, s) })
}

// P6: what is free stands in it, and is free no more within what binds it.
func TestWhatIsFreeStandsInIt(t *testing.T) {
	checked := 0
	for _, e := range manyExps(3000) {
		free := impl.FreeOf(e)
		asked, bound := map[string]int{}, map[string]int{}
		standing(e, asked, bound)
		names := impl.NamesOf(progWith(e))
		for _, s := range without(free, "_") {
			if asked[s] == 0 || !slices.Contains(names, s) {
				t.Fatalf("%s is free in %+v, where it does not stand", s, e)
			}
			checked++
		}
		for _, s := range impl.BoundOf(e) {
			if bound[s] == 0 || !slices.Contains(names, s) {
				t.Fatalf("%s is bound in %+v, where it does not stand", s, e)
			}
		}
		for s := range asked {
			if bound[s] == 0 && !slices.Contains(free, s) {
				t.Fatalf("%s is not free in %+v, where nothing binds it", s, e)
			}
		}
		for _, s := range []string{"a", "b", "c", "dD", "other"} {
			rest := without(free, s)
			wantNames(t, "within a lambda", impl.FreeOf(lam(s, e)), rest...)
			wantNames(t, "within a lambda of another", impl.FreeOf(lam("zz", e)), free...)
			wantNames(t, "within a let", impl.FreeOf(let(e, dec(s, e))), rest...)
			wantNames(t, "within an Alt", impl.FreeOf(caseOf(num(1), alt("", e, s))), rest...)
			wantNames(t, "within an Alt of two", impl.FreeOf(caseOf(num(1), alt("A", e, "zz", s))), rest...)
			wantNames(t, "behind Pars", impl.FreeOfDec(dec(s, e, "zz", s)), rest...)
			wantNames(t, "behind its own Name", impl.FreeOfDec(dec(s, e)), free...)
			wantNames(t, "with a Where", impl.FreeOfDec(with(dec("zz", e), dec(s, e))), rest...)
			wantNames(t, "in a Where", impl.FreeOfDec(with(dec("zz", num(1), s), dec("zy", e))), rest...)
			if !slices.Contains(impl.BoundOf(lam(s, e)), s) {
				t.Fatalf("%s is not bound in a lambda of it", s)
			}
		}
		if t.Failed() {
			return
		}
	}
	if checked < 2000 {
		t.Error("too few to tell:", checked)
	}
}

// Each name of what is read comes back: the same by its text as by its parts.
func TestNamesOfWhatIsReadAgain(t *testing.T) {
	r := rand.New(rand.NewSource(62))
	checked := 0
	for i := range 2000 {
		p := impl.Prog{Decs: rightDecs(r, 2+i%6)}
		if !impl.ProgOk(p) {
			continue
		}
		q, ok := impl.ParseProg(impl.ProgText(p))
		if !ok {
			continue
		}
		toks, _ := impl.Lex(impl.ProgText(p))
		stand := map[string]int{}
		for _, x := range toks {
			if x.K == impl.TkName {
				stand[x.S]++
			}
		}
		wantNames(t, impl.ProgText(p), impl.NamesOf(p), inOrder("_", stand)...)
		wantNames(t, impl.ProgText(p), impl.NamesOf(q), inOrder("_", stand)...)
		checked++
	}
	if checked < 1000 {
		t.Error("too few to tell:", checked)
	}
}

func TestNamesFarTooDeep(t *testing.T) {
	for _, d := range downs {
		deep := 5000
		if d.what == "a lambda's body" || d.what == "what is called" {
			deep = 300000
		}
		e := app(vr("x"), vr("y"))
		for range deep {
			e = d.wrap(e)
		}
		wantNames(t, d.what, impl.FreeOf(e), "x", "y")
		wantNames(t, d.what, impl.FreeOf(lam("x", e)), "y")
		wantNames(t, d.what, impl.FreeOfDec(dec("f", e, "y")), "x")
		wantNames(t, d.what, impl.BoundOf(e), impl.BoundOf(d.wrap(num(1)))...)
		if l := impl.NamesOf(progWith(e)); !slices.Contains(l, "x") || !slices.Contains(l, "y") {
			t.Errorf("%s: NamesOf = %q", d.what, l)
		}
	}
	d := dec("d", app(vr("d"), vr("x")))
	for range 100000 {
		d = with(dec("d", num(1)), d)
	}
	wantNames(t, "Wheres", impl.FreeOfDec(d), "x")
	wantNames(t, "Wheres", impl.BoundOf(let(num(1), d)), "d")
	// Each level asks for a name of its own, and every other one is bound further out.
	const levels = 3000
	e, want := num(1), []string{}
	for i := range levels {
		e = app(e, vr("n"+strconv.Itoa(i)))
	}
	for i := range levels {
		if i%2 == 0 {
			e = lam("n"+strconv.Itoa(i), e)
		} else {
			want = append(want, "n"+strconv.Itoa(i))
		}
	}
	slices.Sort(want)
	wantNames(t, "levels", impl.FreeOf(e), want...)
}

func TestNamesFarTooWide(t *testing.T) {
	const many = 50000
	exps, names, decsOfAll, alts := []impl.Exp{}, []string{}, []impl.Dec{}, []impl.Alt{}
	for i := range many {
		s, next := "n"+strconv.Itoa(i), "n"+strconv.Itoa((i+1)%many)
		names, exps = append(names, s), append(exps, vr(s))
		decsOfAll, alts = append(decsOfAll, dec(s, vr(next))), append(alts, alt("A", app(vr(s), vr(next)), s))
	}
	inRow := slices.Sorted(slices.Values(names))
	wantNames(t, "parts", impl.FreeOf(impl.Exp{K: impl.EApp, L: exps}), inRow...)
	wantNames(t, "Alts", impl.FreeOf(caseOf(num(1), alts...)), inRow...)
	wantNames(t, "Decs that ask for each other", impl.FreeOf(let(vr("n7"), decsOfAll...)))
	wantNames(t, "Decs", impl.BoundOf(let(num(1), decsOfAll...)), inRow...)
	wantNames(t, "a Prog", impl.NamesOf(impl.Prog{Decs: decsOfAll}), inRow...)
	wantNames(t, "a Where", impl.FreeOfDec(with(dec("f", vr("x")), decsOfAll...)), "x")
	wantNames(t, "Pars", impl.FreeOfDec(dec("f", impl.Exp{L: exps}, names[1:]...)), "n0")
	wantNames(t, "Vars", impl.FreeOf(caseOf(num(1), alt("A", impl.Exp{L: exps}, names[1:]...))), "n0")
}

// Lists that many share: what is free by one way to them is free, though others bind it.
func TestNamesOfSharedParts(t *testing.T) {
	shared := []impl.Exp{vr("x"), vr("y"), vr("z")}
	byX, byY := impl.Exp{K: impl.ELam, S: "x", L: shared}, impl.Exp{K: impl.ELam, S: "y", L: shared}
	wantNames(t, "by x", impl.FreeOf(byX), "y", "z")
	wantNames(t, "by x, twice", impl.FreeOf(app(byX, byX)), "y", "z")
	wantNames(t, "by x and by y", impl.FreeOf(app(byX, byY)), "x", "y", "z")
	wantNames(t, "by x and by y within x", impl.FreeOf(lam("x", app(byX, byY))), "y", "z")
	wantNames(t, "by both", impl.FreeOf(impl.Exp{K: impl.ELam, S: "y", L: []impl.Exp{byX}}), "z")
	sharedDecs := decs(dec("f", app(vr("f"), vr("x"))))
	wantNames(t, "Decs of a let and of a Where", impl.FreeOf(let(impl.Exp{Decs: sharedDecs}, sharedDecs...)), "x")
	wantNames(t, "Decs of a let and of no kind", impl.FreeOf(app(let(num(1), sharedDecs...), impl.Exp{Decs: sharedDecs})), "f", "x")

	const times = 100
	one, two, want := impl.Exp{}, impl.Exp{}, []string{}
	for i := range times {
		for _, s := range []string{"x", "y"} {
			want = append(want, s+strconv.Itoa(i))
			one.L = append(one.L, vr(s+strconv.Itoa(i)))
		}
	}
	slices.Sort(want)
	two = one
	for i := range times {
		x, y := "x"+strconv.Itoa(i), "y"+strconv.Itoa(i)
		one = app(lam(x, one), lam(y, one))
		two = app(lam(x, lam(y, two)), let(two, dec(y, two, x), dec(x, two)))
	}
	wantNames(t, "each bound by one way", impl.FreeOf(one), want...)
	wantNames(t, "each bound by one way", impl.BoundOf(one), want...)
	wantNames(t, "each bound by all ways", impl.FreeOf(two))
	wantNames(t, "each bound by all ways", impl.NamesOf(progWith(two)), append([]string{"top"}, want...)...)
}

// A list that stands in itself: free is what is not bound by some way to where it stands.
func TestNamesThatGoRound(t *testing.T) {
	calls := make([]impl.Exp, 2)
	calls[0], calls[1] = impl.Exp{K: impl.EApp, L: calls}, vr("x")
	wantNames(t, "calls", impl.FreeOf(calls[0]), "x")
	wantNames(t, "calls", impl.FreeOf(lam("x", calls[0])))
	wantNames(t, "calls", impl.BoundOf(calls[0]))

	lams := make([]impl.Exp, 3)
	lams[0], lams[1], lams[2] = impl.Exp{K: impl.ELam, S: "x", L: lams}, vr("x"), vr("y")
	wantNames(t, "a lambda", impl.FreeOf(lams[0]), "y")
	wantNames(t, "what is around it", impl.FreeOf(impl.Exp{K: impl.EApp, L: lams}), "x", "y")
	wantNames(t, "a lambda", impl.BoundOf(lams[0]), "x")

	first, second := make([]impl.Exp, 1), make([]impl.Exp, 4)
	first[0] = impl.Exp{K: impl.ELam, S: "y", L: second}
	second[0], second[1], second[2], second[3] = impl.Exp{K: impl.ELam, S: "x", L: first}, vr("x"), vr("y"), vr("z")
	wantNames(t, "two lambdas from the first", impl.FreeOf(first[0]), "x", "z")
	wantNames(t, "two lambdas from the second", impl.FreeOf(second[0]), "z")
	wantNames(t, "two lambdas", impl.BoundOf(second[0]), "x", "y")

	ring := make([]impl.Dec, 1)
	ring[0] = impl.Dec{Name: "a", Pars: []string{"p"}, E: app(vr("a"), app(vr("p"), vr("q"))), Where: ring}
	wantNames(t, "a Where", impl.FreeOfDec(ring[0]), "q")
	wantNames(t, "a Where in a let", impl.FreeOf(let(app(vr("a"), vr("p")), ring...)), "p", "q")
	wantNames(t, "a Where", impl.NamesOf(impl.Prog{Decs: ring}), "a", "p", "q")

	alts := make([]impl.Alt, 2)
	alts[0] = alt("", impl.Exp{K: impl.ECase, L: []impl.Exp{vr("v")}, Alts: alts}, "v")
	alts[1] = alt("A", app(vr("v"), vr("w")), "w")
	wantNames(t, "Alts", impl.FreeOf(alts[0].E), "v")
	wantNames(t, "Alts within", impl.FreeOf(lam("v", alts[0].E)))
	wantNames(t, "Alts", impl.BoundOf(alts[0].E), "v", "w")
}

// askNames answers what each of the four calls says of a Prog, of its Decs and their bodies.
func askNames(p impl.Prog) [][]string {
	l := [][]string{impl.NamesOf(p)}
	for _, d := range p.Decs {
		l = append(l, impl.FreeOfDec(d), impl.FreeOf(d.E), impl.BoundOf(d.E), impl.FreeOf(let(d.E, p.Decs...)))
	}
	return l
}

func TestNamesAreNewMemory(t *testing.T) {
	r := rand.New(rand.NewSource(63))
	wrong := impl.Prog{Decs: decs(dec("f", anyExp(r, 4), "b", "a", "c"), with(dec("a", anyExp(r, 3)), dec("c", anyExp(r, 3), "z", "a")))}
	for i, base := range []impl.Prog{wholeProg(), wrong, {}} {
		p := roomy(reflect.ValueOf(base)).Interface().(impl.Prog)
		ahead := toldWithRoom(reflect.ValueOf(p))
		want := askNames(base)
		for range 3 {
			got := askNames(p)
			if told(got) != told(want) {
				t.Errorf("program %d: %q; want %q", i, got, want)
			}
			sharesNothing(t, "names", reflect.ValueOf(got))
			for _, l := range got {
				l = l[:cap(l)]
				for j := range l {
					l[j] = "changed"
				}
			}
		}
		if toldWithRoom(reflect.ValueOf(p)) != ahead {
			t.Errorf("program %d was written into", i)
		}
	}
}

// Lists of names in another order than the ascending one stay in it.
func TestListsOfNamesStayAsTheyAre(t *testing.T) {
	pars, vars := []string{"c", "a", "b", "behind"}[:3], []string{"z", "x", "y", "behind"}[:3]
	d := impl.Dec{Name: "f", Pars: pars, E: caseOf(vr("c"), impl.Alt{Great: "A", Vars: vars, E: vr("x")}), Where: append(make([]impl.Dec, 0, 4), dec("w", vr("behind")), dec("v", vr("a")))}
	wantNames(t, "FreeOfDec", impl.FreeOfDec(d), "behind")
	wantNames(t, "FreeOf", impl.FreeOf(let(vr("w"), d)), "behind", "w")
	wantNames(t, "BoundOf", impl.BoundOf(let(num(1), d)), "a", "b", "c", "f", "v", "w", "x", "y", "z")
	wantNames(t, "NamesOf", impl.NamesOf(impl.Prog{Decs: decs(d)}), "a", "b", "behind", "c", "f", "v", "w", "x", "y", "z")
	wantNames(t, "Pars", pars[:4], "c", "a", "b", "behind")
	wantNames(t, "Vars", vars[:4], "z", "x", "y", "behind")
	if d.Where[:4][2].Name != "" || d.Where[0].Name != "w" {
		t.Error("the Where was written into")
	}
}
