package tests

import (
	"math"
	"math/rand"
	"reflect"
	"slices"
	"strconv"
	"strings"
	"testing"

	"loop.example/g00471/impl"
)

func TestNumbersOfCodes(t *testing.T) {
	got := []int{impl.ToGood, impl.ToForm, impl.ToNone, impl.ToTaken, impl.ToNot, impl.ToLarge}
	if !slices.Equal(got, []int{0, 1, 2, 3, 4, 5}) {
		t.Error(got)
	}
}

// A swappedText is a text, and what it is with z in the place of x.
type swappedText struct{ text, want string }

func wantSwaps(t *testing.T, old, new string, l ...swappedText) {
	t.Helper()
	for _, c := range l {
		e, want := expOf(t, c.text), expOf(t, c.want)
		if got := impl.Swap(e, old, new); told(got) != told(want) {
			t.Errorf("Swap of %s to %s in %q = %q; want %q", old, new, c.text, impl.ExpText(got, 0), c.want)
		}
		if told(swapByHand(e, nil, old, new)) != told(want) {
			t.Errorf("Swap of %s to %s in %q is another one by hand", old, new, c.text)
		}
	}
}

// freeTexts are of each kind, with x where it is free.
func freeTexts() []string {
	return []string{
		"x", "x y", "y x", "x x", "x x x", "F x 1", `\y -> x`, `\_ -> x`, `\y -> \w -> y x w`,
		"let y = x in y", "let y = 1 in x", "let { y = w ; w = x } in y", "let f a = x in f", "let f a b = a x b in x f", "let f = x where { a = 1 } in f", "let f = 1 where { a = x } in f", "let f a = a where { b c = b where { d = x } } in f", "let y _ = x in y",
		"case x of { A -> 1 }", "case 1 of { A -> x }", "case 1 of { A y w -> x }", "case 1 of { A -> 1 ; y -> x ; B _ -> x }", "case x of { _ -> x }", "case 1 of { y -> y x }",
		"if x then 1 else 2", "if 1 then x else 2", "if 1 then 2 else x", "if x then x else x", "x + 1", "1 - x", "x * x", "x == 1", "2 < x",
	}
}

func TestSwapOfEachKind(t *testing.T) {
	inPlace := strings.NewReplacer("x", "z")
	for _, s := range freeTexts() {
		wantSwaps(t, "x", "z", swappedText{s, inPlace.Replace(s)})
		wantSwaps(t, "z", "x", swappedText{s, s})
		wantSwaps(t, "other", "z", swappedText{s, s})
	}
	for _, s := range []string{"y", "X", "7", `\y -> y`, "f y", "let y = 1 in y", "case y of { A w -> w }", "if a then b else c", "a + b", "xx", "x1", "ax"} {
		wantSwaps(t, "x", "z", swappedText{s, s})
	}
}

// Where it is bound it stays.
func TestSwapWhereItIsBound(t *testing.T) {
	for _, s := range []string{
		`\x -> x`, `\x -> y`, `\x -> \y -> x y`, `\x -> \x -> x`, `\y -> \x -> y x`, `\x -> let y = x in case x of { A w -> x ; v -> x }`, `\x -> if x then x else x + x`,
		"let x = x in x", "let x = 1 in x", "let { x = y ; y = x } in x y", "let { y = x ; x = 1 } in y", "let x a = a x in x", "let x = 1 in let y = x in x y", "let { x = 1 ; f a = x where { b = x } } in f x",
		"let f x = x in f", "let f a x = x a in f", "let f x = x where { a = x ; b c = x } in f", "let f x = 1 where { a = b where { b = x } } in f",
		"let f = x where { x = 1 } in f", "let f = 1 where { x = x } in f", "let f = 1 where { a = x ; x = 2 } in f", "let f a = x a where { x = a ; b x = x } in f",
		"case 1 of { A x -> x }", "case 1 of { A y x w -> x y w }", "case 1 of { x -> x }", "case 1 of { A x -> x ; x -> x }", `case 1 of { x -> \y -> x y }`,
		// A name of a Dec is no place where it is asked for.
		"let x = 1 in 2", "let f = 1 where { x = 2 } in f", "let x x = x in x", `(\x -> 1) 2`, "case 1 of { A x -> 2 }",
	} {
		wantSwaps(t, "x", "z", swappedText{s, s})
	}
}

// Where it is free beside, around and within what binds it, it is turned.
func TestSwapBesideWhereItIsBound(t *testing.T) {
	wantSwaps(t, "x", "z",
		swappedText{`x (\x -> x)`, `z (\x -> x)`}, swappedText{`(\x -> x) x`, `(\x -> x) z`}, swappedText{`(\x -> x y) (\y -> x y)`, `(\x -> x y) (\y -> z y)`}, swappedText{`\y -> x ((\x -> x) x)`, `\y -> z ((\x -> x) z)`}, swappedText{`(\x -> 1) x`, `(\x -> 1) z`},
		swappedText{"(let x = 1 in x) x", "(let x = 1 in x) z"}, swappedText{"x (let x = x in x)", "z (let x = x in x)"}, swappedText{"let y = x in let x = 1 in x y", "let y = z in let x = 1 in x y"}, swappedText{"let y = let x = x in x in x", "let y = let x = x in x in z"},
		swappedText{"let { f x = x ; g = x } in x", "let { f x = x ; g = z } in z"}, swappedText{"let { g = x ; f x = x } in f", "let { g = z ; f x = x } in f"}, swappedText{"let f x = 1 in x", "let f x = 1 in z"},
		swappedText{"let { f = x where { x = x } ; g = x } in x", "let { f = x where { x = x } ; g = z } in z"}, swappedText{"let f = x where { g x = x } in f", "let f = z where { g x = x } in f"}, swappedText{"let f = x where { g = x where { x = 1 } ; h = x } in x", "let f = z where { g = x where { x = 1 } ; h = z } in z"}, swappedText{"let f x = x where { g = x } in x", "let f x = x where { g = x } in z"},
		swappedText{"case x of { A x -> x ; B -> x }", "case z of { A x -> x ; B -> z }"}, swappedText{"case x of { x -> x }", "case z of { x -> x }"}, swappedText{"case 1 of { B -> x ; A x -> x ; w -> x }", "case 1 of { B -> z ; A x -> x ; w -> z }"}, swappedText{"case 1 of { A _ -> x ; _ -> x ; x -> x }", "case 1 of { A _ -> z ; _ -> z ; x -> x }"},
		swappedText{"if x then (let x = 1 in x) else (case x of { x -> x })", "if z then (let x = 1 in x) else (case z of { x -> x })"}, swappedText{`x + (\x -> x) x * (let x = 2 in x)`, `z + (\x -> x) z * (let x = 2 in x)`},
	)
	// A name of a Where binds within its Dec, one of a let in all of the let.
	wantSwaps(t, "w", "z",
		swappedText{"let f = w where { w = 1 } in w", "let f = w where { w = 1 } in z"}, swappedText{"let { f = 1 where { w = 1 } ; g = w } in f", "let { f = 1 where { w = 1 } ; g = z } in f"}, swappedText{"let { f = 1 ; w = 2 } in f w", "let { f = 1 ; w = 2 } in f w"},
	)
}

// In each part of each part: free, bound there, and bound around it.
func TestSwapInEachPart(t *testing.T) {
	want := func(what string, e, want impl.Exp) {
		t.Helper()
		if got := impl.Swap(e, "zz", "yy"); told(got) != told(want) {
			t.Errorf("%s: Swap of zz to yy in %+v = %+v", what, e, got)
		}
	}
	for _, d := range downs {
		for _, outer := range downs {
			what := d.what + " in " + outer.what
			free, turned := outer.wrap(d.wrap(vr("zz"))), outer.wrap(d.wrap(vr("yy")))
			want(what, free, turned)
			for _, bound := range []impl.Exp{lam("zz", free), let(free, dec("zz", free)), let(num(1), dec("f", free, "zz")), let(num(1), with(dec("f", free), dec("zz", free))), let(num(1), with(dec("f", num(1), "zz"), dec("g", free))), caseOf(num(1), alt("A", free, "_", "zz")), caseOf(num(1), alt("", free, "zz"))} {
				want(what+", bound around", bound, bound)
				want(what+", bound there", outer.wrap(d.wrap(bound)), outer.wrap(d.wrap(bound)))
				want(what+", free beside", app(free, app(bound, free)), app(turned, app(bound, turned)))
			}
			want(what+", free within others", lam("yy", let(free, dec("f", free, "y"))), lam("yy", let(turned, dec("f", turned, "y"))))
		}
	}
}

func TestSwapOfOldAndNewAlike(t *testing.T) {
	for _, s := range freeTexts() {
		wantSwaps(t, "x", "x", swappedText{s, s})
	}
	for _, e := range manyExps(500) {
		for _, s := range []string{"a", "b", "_", "none", ""} {
			if got := impl.Swap(e, s, s); told(got) != told(e) {
				t.Fatalf("Swap of %q to itself in %+v = %+v", s, e, got)
			}
		}
	}
}

// Nothing is asked of the new name: where it is bound, it stands all the same, and where it was free, too.
func TestSwapToWhatIsBoundThere(t *testing.T) {
	wantSwaps(t, "x", "z",
		swappedText{`\z -> x`, `\z -> z`}, swappedText{`\z -> x z`, `\z -> z z`}, swappedText{"let z = x in x", "let z = z in z"}, swappedText{"let f z = x in f", "let f z = z in f"}, swappedText{"let f = x where { z = x } in f", "let f = z where { z = z } in f"},
		swappedText{"case x of { A z -> x ; z -> x }", "case z of { A z -> z ; z -> z }"}, swappedText{"x z", "z z"}, swappedText{`\x -> x z`, `\x -> x z`}, swappedText{`x (\x -> z x)`, `z (\x -> z x)`},
	)
}

// Old and new stand as they are told, though they be no names; what is no place of a name stays.
func TestSwapOfNoNames(t *testing.T) {
	odd := []string{"", "_", "A", "let", "toolongis", "x y", "\u00e9", "\xff", "+", "x\x00"}
	for _, old := range odd {
		for _, new := range append(odd, "z") {
			e := app(vr(old), lam("y", app(vr(old), vr("x"))))
			want := app(vr(new), lam("y", app(vr(new), vr("x"))))
			if got := impl.Swap(e, old, new); told(got) != told(want) {
				t.Errorf("Swap of %q to %q = %+v", old, new, got)
			}
			if got := impl.Swap(e, "x", new); told(got) != told(swapByHand(e, nil, "x", new)) {
				t.Errorf("Swap of x to %q = %+v", new, got)
			}
			for _, bound := range []impl.Exp{lam(old, vr(old)), let(vr(old), dec(old, vr(old))), let(num(1), dec("f", vr(old), old)), let(num(1), with(dec("f", vr(old)), dec(old, num(2)))), caseOf(num(1), alt("A", vr(old), old))} {
				if got := impl.Swap(bound, old, new); told(got) != told(bound) {
					t.Errorf("Swap of %q to %q where it is bound = %+v", old, new, got)
				}
			}
			for _, none := range []impl.Exp{great(old), op(old, num(1), num(2)), {K: 0, S: old}, {K: impl.ENum, S: old, N: 5}, {K: impl.EApp, S: old}, {K: impl.ECase, S: old, Alts: []impl.Alt{alt(old, num(1))}}, {K: 10, S: old}} {
				if got := impl.Swap(none, old, new); told(got) != told(none) {
					t.Errorf("Swap of %q to %q in what is no place of a name = %+v", old, new, got)
				}
			}
		}
	}
}

// fullExp has all parts, whatever its kind tells, and asks for x in each; what binds is named by.
func fullExp(k int, s, by string) impl.Exp {
	x := app(vr("x"), vr("y"))
	d := with(dec("f", x, "p"), with(dec(by, x), dec("h", x, "q")), dec("i", x))
	return impl.Exp{K: k, S: s, N: -7, L: []impl.Exp{x, lam(by, x), {}, x}, Decs: decs(d, dec("g", x, by), dec("", x)), Alts: []impl.Alt{alt("A", x, "v", by), {E: x}, alt(by, x), alt("", x, "w", "w")}}
}

// What is not right is looked at in all its parts, whatever its kind: what is free there, chapter 6 says.
func TestSwapOfWhatIsNotRight(t *testing.T) {
	for _, k := range []int{math.MinInt, -1, 0, 1, 2, 3, 4, 5, 6, 7, 8, 9, 10, math.MaxInt} {
		for _, s := range []string{"x", "y", "s", ""} {
			for _, by := range []string{"x", "by"} {
				e := fullExp(k, s, by)
				for _, old := range []string{"x", "y", "f", "g", "h", "s", "p", ""} {
					got := impl.Swap(e, old, "z")
					if told(got) != told(swapByHand(e, nil, old, "z")) {
						t.Errorf("kind %d of %q: Swap of %q = %+v", k, s, old, got)
					}
					wantNames(t, "FreeOf kind "+strconv.Itoa(k), impl.FreeOf(got), turnedNames(impl.FreeOf(e), old, "z")...)
				}
			}
		}
		// By hand: one part of each sort, bound by what binds it and by nothing else.
		all := impl.Exp{K: k, S: "x", L: []impl.Exp{vr("x")}, Decs: decs(dec("f", vr("x"))), Alts: []impl.Alt{{E: vr("x")}}}
		want := impl.Exp{K: k, S: "x", L: []impl.Exp{vr("z")}, Decs: decs(dec("f", vr("z"))), Alts: []impl.Alt{{E: vr("z")}}}
		switch k {
		case impl.EVar:
			want.S = "z"
		case impl.ELam:
			want.L = all.L
		}
		if got := impl.Swap(all, "x", "z"); told(got) != told(want) {
			t.Errorf("kind %d: Swap = %+v", k, got)
		}
		all.Decs[0].Name, want.Decs[0].Name = "x", "x"
		if k == impl.ELet {
			want.L, want.Decs = all.L, all.Decs
		}
		if got := impl.Swap(all, "x", "z"); told(got) != told(want) {
			t.Errorf("kind %d with a Dec x: Swap = %+v", k, got)
		}
	}
	for _, e := range []impl.Exp{{}, {K: impl.EVar}, {K: impl.ELam, S: "x"}, {K: impl.ELet, L: []impl.Exp{vr("x")}}, {K: impl.EApp, L: []impl.Exp{vr("x")}}, let(vr("x"), impl.Dec{}, impl.Dec{}), caseOf(vr("x"), impl.Alt{}), {L: []impl.Exp{}, Decs: []impl.Dec{}, Alts: []impl.Alt{}}} {
		if got := impl.Swap(e, "x", "z"); told(got) != told(swapByHand(e, nil, "x", "z")) {
			t.Errorf("Swap of %+v = %+v", e, got)
		}
	}
	if got := impl.Swap(impl.Exp{}, "", "z"); told(got) != told(impl.Exp{}) {
		t.Errorf("Swap of nothing = %+v", got)
	}
}

func TestSwapFarTooDeep(t *testing.T) {
	want := func(what string, e, want impl.Exp) {
		t.Helper()
		if !impl.SameExp(impl.Swap(e, "x", "z"), want) {
			t.Errorf("%s, far too deep: Swap is another one", what)
		}
	}
	for _, d := range downs {
		deep := 5000
		if d.what == "a lambda's body" || d.what == "what is called" {
			deep = 200000
		}
		e, turned := app(vr("x"), vr("y")), app(vr("z"), vr("y"))
		for range deep {
			e, turned = d.wrap(e), d.wrap(turned)
		}
		want(d.what, e, turned)
		want(d.what+" of what binds", lam("x", e), lam("x", e))
		want(d.what+" beside", app(lam("x", e), e), app(lam("x", e), turned))
		want(d.what+" of a Dec", let(num(1), dec("f", e, "x"), dec("g", e)), let(num(1), dec("f", e, "x"), dec("g", turned)))
	}
	d, turned := dec("a", vr("x")), dec("a", vr("z"))
	for i := range 200000 {
		par := []string{"y", "w", "_"}[i%3]
		d, turned = with(dec("a", vr("x"), par), d), with(dec("a", vr("z"), par), turned)
	}
	want("Wheres", let(num(1), d), let(num(1), turned))
	want("Wheres behind a Par", let(num(1), with(dec("f", num(1), "x"), d)), let(num(1), with(dec("f", num(1), "x"), d)))
	// Bound at one level, and free again at none below.
	e, mixed := vr("x"), vr("x")
	for range 1000 {
		e, mixed = app(vr("x"), lam("y", e)), app(vr("x"), lam("y", mixed))
	}
	e, mixed = lam("x", e), lam("x", mixed)
	for range 1000 {
		e, mixed = app(vr("x"), lam("y", e)), app(vr("z"), lam("y", mixed))
	}
	want("levels", e, mixed)
}

func TestSwapFarTooWide(t *testing.T) {
	const many = 100000
	names, alts, turnedAlts, wide, turnedDecs := []string{}, []impl.Alt{}, []impl.Alt{}, []impl.Dec{}, []impl.Dec{}
	for i := range many {
		s := "n" + strconv.Itoa(i)
		by, in := s, "z"
		if i%2 == 0 {
			by, in = "x", "x"
		}
		names = append(names, s)
		alts, turnedAlts = append(alts, alt("A", vr("x"), by)), append(turnedAlts, alt("A", vr(in), by))
		wide, turnedDecs = append(wide, dec(s, vr("x"), by)), append(turnedDecs, dec(s, vr(in), by))
	}
	some := append(slices.Clone(names), "x")
	exps, turned := slices.Repeat([]impl.Exp{vr("x"), vr("y")}, many), slices.Repeat([]impl.Exp{vr("z"), vr("y")}, many)
	for _, c := range []struct {
		what    string
		e, want impl.Exp
	}{
		{"parts", impl.Exp{L: exps}, impl.Exp{L: turned}},
		{"Alts", caseOf(vr("x"), alts...), caseOf(vr("z"), turnedAlts...)},
		{"Decs", let(vr("x"), wide...), let(vr("z"), turnedDecs...)},
		{"Decs that bind", let(vr("x"), append(wide, dec("x", vr("y")))...), let(vr("x"), append(wide, dec("x", vr("y")))...)},
		{"a Where", let(vr("x"), with(dec("f", vr("x")), wide...)), let(vr("z"), with(dec("f", vr("z")), turnedDecs...))},
		{"a Where that binds", let(vr("x"), with(dec("f", vr("x")), append(wide, dec("x", vr("y")))...)), let(vr("z"), with(dec("f", vr("x")), append(wide, dec("x", vr("y")))...))},
		{"Pars", let(vr("x"), dec("f", vr("x"), names...)), let(vr("z"), dec("f", vr("z"), names...))},
		{"Pars that bind", let(vr("x"), dec("f", vr("x"), some...)), let(vr("z"), dec("f", vr("x"), some...))},
		{"Vars", caseOf(vr("x"), alt("A", vr("x"), names...)), caseOf(vr("z"), alt("A", vr("z"), names...))},
		{"Vars that bind", caseOf(vr("x"), alt("A", vr("x"), some...)), caseOf(vr("z"), alt("A", vr("x"), some...))},
	} {
		if got := impl.Swap(c.e, "x", "z"); !impl.SameExp(got, c.want) {
			t.Errorf("%s, far too many: Swap is another one", c.what)
		}
	}
	long := strings.Repeat("a", 1000000)
	e := impl.Exp{L: slices.Repeat([]impl.Exp{vr("x"), lam("x", vr("x"))}, 10000)}
	if got := impl.Swap(e, "x", long); got.L[0].S != long || got.L[19998].S != long || got.L[19999].L[0].S != "x" || !impl.SameExp(impl.Swap(got, long, "x"), e) {
		t.Error("a text that is far too long: Swap is another one")
	}
}

// A mixture puts one Exp twice into another one: e where x is bound, and free where it is free.
type mixture struct {
	what string
	of   func(e, free impl.Exp) impl.Exp
}

func mixtures() []mixture {
	bound := []string{"x", "_"}
	return []mixture{
		{"a call", func(_, free impl.Exp) impl.Exp { return app(free, free) }},
		{"a lambda", func(e, free impl.Exp) impl.Exp { return app(lam("x", e), free) }},
		{"another lambda", func(e, free impl.Exp) impl.Exp { return app(free, lam("x", lam("x", e))) }},
		{"Alts", func(e, free impl.Exp) impl.Exp {
			return caseOf(num(1), impl.Alt{Great: "A", Vars: bound, E: e}, impl.Alt{Great: "B", Vars: bound[1:], E: free})
		}},
		{"a let", func(e, free impl.Exp) impl.Exp { return app(let(e, dec("x", e)), let(free, dec("y", free))) }},
		{"Pars", func(e, free impl.Exp) impl.Exp {
			return let(free, impl.Dec{Name: "a", Pars: bound, E: e}, impl.Dec{Name: "b", Pars: bound[1:], E: free})
		}},
		{"a Where", func(e, free impl.Exp) impl.Exp {
			return let(num(1), with(dec("a", e), dec("x", e, "y")), with(dec("b", free), dec("c", e, "x")))
		}},
	}
}

// mixed answers an Exp that has one twice below, so many times, and what it is with z in the place of x.
func mixed(times int, m mixture) (e, turned impl.Exp) {
	e, turned = app(vr("x"), vr("y")), app(vr("z"), vr("y"))
	for range times {
		e, turned = m.of(e, e), m.of(e, turned)
	}
	return e, turned
}

func TestSwapOfSharedLists(t *testing.T) {
	for _, m := range mixtures() {
		for _, times := range []int{0, 1, 2, 3, 6} {
			what := m.what + ", " + strconv.Itoa(times) + " times"
			e, want := mixed(times, m)
			if told(want) != told(swapByHand(e, nil, "x", "z")) {
				t.Errorf("%s: another one by hand", what)
			}
			wantSwapOwn(t, what, e, want)
			wantSwapOwn(t, what+", bound", lam("x", e), lam("x", e))
		}
	}
	e, want := mixed(20, mixtures()[0])
	if n := wantSwapOwn(t, "a call, 20 times", e, want); n != 1<<22-2 {
		t.Error("a call, 20 times: places", n)
	}
	// One list at a place where it is free and at one where it is not, and lists that are pieces of one.
	l := []impl.Exp{vr("x"), vr("y"), vr("x")}
	turned := []impl.Exp{vr("z"), vr("y"), vr("z")}
	byX, byY := impl.Exp{K: impl.ELam, S: "x", L: l}, impl.Exp{K: impl.ELam, S: "y", L: l}
	wantSwapOwn(t, "one list", impl.Exp{L: []impl.Exp{byX, byY, {L: l}, byX, {L: l[1:]}, {L: l[:1]}}}, impl.Exp{L: []impl.Exp{byX, {K: impl.ELam, S: "y", L: turned}, {L: turned}, byX, {L: turned[1:]}, {L: turned[:1]}}})
	shared, turnedDecs := decs(dec("f", app(vr("f"), vr("x"))), dec("g", vr("x"), "x")), decs(dec("f", app(vr("f"), vr("z"))), dec("g", vr("x"), "x"))
	wantSwapOwn(t, "Decs of a let, of a Where and of no kind", impl.Exp{L: []impl.Exp{let(vr("x"), shared...), {Decs: shared}}, Decs: decs(with(dec("f", vr("x")), shared...), with(dec("g", vr("x"), "x"), shared...))},
		impl.Exp{L: []impl.Exp{let(vr("z"), turnedDecs...), {Decs: turnedDecs}}, Decs: decs(with(dec("f", vr("z")), turnedDecs...), with(dec("g", vr("x"), "x"), shared...))})
}

// wantSwapOwn holds Swap of e against want, and that no two of its lists share memory, nor one with e.
func wantSwapOwn(t *testing.T, what string, e, want impl.Exp) int {
	t.Helper()
	got := impl.Swap(e, "x", "z")
	if !impl.SameExp(got, want) {
		t.Errorf("%s: Swap is another one", what)
	}
	var m marker
	m.exp(&got)
	if m.again > 0 {
		t.Errorf("%s: of %d places %d are shared with others", what, m.places, m.again)
	}
	if !impl.SameExp(impl.Swap(e, "x", "z"), want) {
		t.Errorf("%s: an argument was written into", what)
	}
	return m.places
}

// wantSwapShared is of what no memory holds all lists of: they may be shared with each other, but not with an argument.
func wantSwapShared(t *testing.T, what string, e, want impl.Exp) {
	t.Helper()
	same := impl.SameExp(e, want)
	got := impl.Swap(e, "x", "z")
	if !impl.SameExp(got, want) || impl.SameExp(got, e) != same {
		t.Errorf("%s: Swap is another one", what)
	}
	var m marker
	m.exp(&got)
	if !impl.SameExp(impl.Swap(e, "x", "z"), want) || impl.SameExp(got, want) {
		t.Errorf("%s: an argument was written into", what)
	}
}

func TestSwapOfWhatCannotBeHeld(t *testing.T) {
	for _, m := range mixtures() {
		for _, times := range []int{40, 64, 200} {
			what := m.what + ", " + strconv.Itoa(times) + " times"
			e, want := mixed(times, m)
			wantSwapShared(t, what, e, want)
			wantSwapShared(t, what+", bound", let(num(1), dec("x", e)), let(num(1), dec("x", e)))
			wantSwapShared(t, what+", bound and free", app(lam("x", e), app(e, lam("x", e))), app(lam("x", e), app(want, lam("x", e))))
		}
	}
	// One long list of names at many places.
	for _, c := range []naming{{"x", "x"}, {"other", "z"}} {
		vars := append(slices.Repeat([]string{"v", "w"}, 500000), c.text)
		alts := caseOf(num(1), slices.Repeat([]impl.Alt{{Great: "A", Vars: vars, E: vr("x")}}, 100000)...)
		if got := impl.Swap(alts, "x", "z"); len(got.Alts) != 100000 || !slices.Equal(got.Alts[0].Vars, vars) || &got.Alts[0].Vars[0] == &vars[0] || got.Alts[99999].E.S != c.names {
			t.Error("many Alts of many Vars: Swap is another one")
		}
		pars := let(num(1), slices.Repeat([]impl.Dec{{Name: "f", Pars: vars, E: vr("x")}}, 50000)...)
		if got := impl.Swap(pars, "x", "z"); len(got.Decs) != 50000 || !slices.Equal(got.Decs[7].Pars, vars) || &got.Decs[7].Pars[0] == &vars[0] || got.Decs[49999].E.S != c.names {
			t.Error("many Decs of many Pars: Swap is another one")
		}
		where := append(numbered(50000), dec(c.text, num(1)))
		wheres := let(num(1), slices.Repeat([]impl.Dec{{Name: "f", E: vr("x"), Where: where}}, 50000)...)
		if got := impl.Swap(wheres, "x", "z"); len(got.Decs) != 50000 || len(got.Decs[7].Where) != 50001 || &got.Decs[7].Where[0] == &where[0] || got.Decs[49999].E.S != c.names {
			t.Error("many Decs of one long Where: Swap is another one")
		}
	}
}

// A list that stands in itself: by one way it may be bound, and by another one free.
func TestSwapOfWhatGoesRound(t *testing.T) {
	ring := func(asked string, body []impl.Exp) []impl.Exp {
		l := make([]impl.Exp, 3)
		l[0], l[1], l[2] = impl.Exp{K: impl.ELam, S: "x", L: body}, vr(asked), vr("y")
		if body == nil {
			l[0].L = l
		}
		return l
	}
	lams := ring("x", nil)
	turned := ring("z", lams)
	wantSwapShared(t, "a lambda", lams[0], lams[0])
	wantSwapShared(t, "what is around it", impl.Exp{K: impl.EApp, L: lams}, impl.Exp{K: impl.EApp, L: turned})
	wantSwapShared(t, "a lambda of another one", lam("w", impl.Exp{L: lams}), lam("w", impl.Exp{L: turned}))

	calls, turnedCalls := make([]impl.Exp, 2), make([]impl.Exp, 2)
	calls[0], calls[1] = impl.Exp{K: impl.EApp, L: calls}, vr("x")
	turnedCalls[0], turnedCalls[1] = impl.Exp{K: impl.EApp, L: turnedCalls}, vr("z")
	wantSwapShared(t, "calls", calls[0], turnedCalls[0])
	wantSwapShared(t, "calls that are bound", lam("x", calls[0]), lam("x", calls[0]))

	wheres, turnedWheres := make([]impl.Dec, 2), make([]impl.Dec, 2)
	wheres[0], wheres[1] = impl.Dec{Name: "a", Pars: []string{"x"}, E: vr("x"), Where: wheres[1:]}, impl.Dec{Name: "b", E: vr("x"), Where: wheres}
	turnedWheres[0], turnedWheres[1] = impl.Dec{Name: "a", Pars: []string{"x"}, E: vr("x"), Where: wheres[1:]}, impl.Dec{Name: "b", E: vr("z"), Where: turnedWheres}
	wantSwapShared(t, "Wheres", let(vr("x"), wheres...), let(vr("z"), turnedWheres...))
	wantSwapShared(t, "the second one", let(vr("x"), wheres[1:]...), let(vr("z"), turnedWheres[1:]...))
	wantSwapShared(t, "Wheres of a Dec x", let(vr("x"), with(dec("x", num(1)), wheres...)), let(vr("x"), with(dec("x", num(1)), wheres...)))

	alts, turnedAlts := make([]impl.Alt, 2), make([]impl.Alt, 2)
	alts[0], alts[1] = alt("", impl.Exp{K: impl.ECase, L: []impl.Exp{vr("x")}, Alts: alts}, "x"), alt("A", impl.Exp{K: impl.ECase, L: []impl.Exp{vr("x")}, Alts: alts}, "w")
	turnedAlts[0], turnedAlts[1] = alts[0], alt("A", impl.Exp{K: impl.ECase, L: []impl.Exp{vr("z")}, Alts: turnedAlts}, "w")
	wantSwapShared(t, "Alts", alts[1].E, turnedAlts[1].E)
	wantSwapShared(t, "Alts of the first one", lam("x", alts[0].E), lam("x", alts[0].E))
}

// askSwap answers many Swaps of one Exp.
func askSwap(e impl.Exp) []impl.Exp {
	l := []impl.Exp{}
	for _, c := range []naming{{"x", "z"}, {"f", "x"}, {"x", "x"}, {"none", "z"}, {"", "_"}, {"a", "b"}} {
		l = append(l, impl.Swap(e, c.text, c.names))
	}
	return l
}

func TestSwapIsNewMemory(t *testing.T) {
	r := rand.New(rand.NewSource(141))
	for i, base := range []impl.Exp{wholeExp(), fullExp(impl.ELet, "x", "by"), fullExp(0, "", "x"), anyExp(r, 5), anyExp(r, 5), vr("x"), {}} {
		e := roomy(reflect.ValueOf(base)).Interface().(impl.Exp)
		kept := toldWithRoom(reflect.ValueOf(e))
		want := told(askSwap(base))
		for range 3 {
			got := askSwap(e)
			if told(got) != want {
				t.Errorf("Exp %d: an answer hangs on the room behind, or was kept: %+v", i, got)
			}
			sharesNothing(t, "Swap", reflect.ValueOf(struct {
				Asked    impl.Exp
				Answered []impl.Exp
			}{e, got}))
			spoilAll(reflect.ValueOf(&got).Elem())
		}
		if toldWithRoom(reflect.ValueOf(e)) != kept {
			t.Errorf("Exp %d was written into", i)
		}
	}
}

// Each part of a whole is kept, and each change of it is to be seen.
func TestSwapKeepsEachPart(t *testing.T) {
	first := wholeExp()
	for i := range changes(reflect.ValueOf(&first).Elem()) {
		changed := wholeExp()
		changes(reflect.ValueOf(&changed).Elem())[i]()
		for _, old := range []string{"x", "p", "f", "b"} {
			if got, want := impl.Swap(changed, old, "new"), swapByHand(changed, nil, old, "new"); told(got) != told(want) {
				t.Errorf("change %d: Swap of %s = %+v; want %+v", i, old, got, want)
			}
		}
	}
}

// A renaming is a text, two names, and the text that comes of it.
type renaming struct{ text, old, new, want string }

func wantRenames(t *testing.T, l ...renaming) {
	t.Helper()
	for _, c := range l {
		p := progRead(t, c.text)
		got, code := impl.Rename(p, c.old, c.new)
		if want := progRead(t, c.want); code != impl.ToGood || told(got) != told(want) {
			t.Errorf("Rename of %s to %s in %q = %q, %d; want %q", c.old, c.new, c.text, impl.ProgText(got), code, c.want)
		}
		seen := turning{kinds: map[int]int{}}
		checkTurned(t, p, c.old, c.new, []int{0, 1, 2, 3, 5, 10, 100, 1000, impl.MaxFuel}, &seen)
	}
}

func TestRenameOfOrdinaryNames(t *testing.T) {
	wantRenames(t,
		renaming{"main = f 1\nf x = x", "f", "g", "main = g 1\ng x = x"}, renaming{"f x = x\nmain = f 1", "f", "g", "g x = x\nmain = g 1"}, renaming{"f = 1\nmain = 2", "f", "g", "g = 1\nmain = 2"},
		// In its own Dec, and in others that need each other.
		renaming{"f x = f x\nmain = 1", "f", "g", "g x = g x\nmain = 1"}, renaming{"f x = h x\nh x = f x\nmain = f", "f", "g", "g x = h x\nh x = g x\nmain = g"}, renaming{"f = f\nh = f\nmain = h", "f", "g", "g = g\nh = g\nmain = h"}, renaming{"f x = main\nmain = f 1", "f", "g", "g x = main\nmain = g 1"},
		// In a Where of its own and of others.
		renaming{"f x = w where { w = f x }\nmain = f 1", "f", "g", "g x = w where { w = g x }\nmain = g 1"}, renaming{"f = 1\nh = w where { w = f ; v = u where { u = f } }\nmain = h + f", "f", "g", "g = 1\nh = w where { w = g ; v = u where { u = g } }\nmain = h + g"}, renaming{"f = 1\nmain = w where { w = f }", "f", "g", "g = 1\nmain = w where { w = g }"},
		// In a let, a case, a lambda, and in each other kind.
		renaming{"f = 1\nmain = let { a = f ; b c = f } in a + f", "f", "g", "g = 1\nmain = let { a = g ; b c = g } in a + g"}, renaming{"f = True\nmain = case f of { True -> f ; y -> f }", "f", "g", "g = True\nmain = case g of { True -> g ; y -> g }"}, renaming{`f = 1` + "\n" + `main = \y -> \_ -> f`, "f", "g", "g = 1\n" + `main = \y -> \_ -> g`},
		renaming{"f = True\nmain = if f then f else f", "f", "g", "g = True\nmain = if g then g else g"}, renaming{"f = 1\nmain = f + f * f - f", "f", "g", "g = 1\nmain = g + g * g - g"}, renaming{"f = 1\nmain = f == f", "f", "g", "g = 1\nmain = g == g"}, renaming{"f = 1\nmain = f < f", "f", "g", "g = 1\nmain = g < g"}, renaming{"f x = x\nmain = f f (f f) 1", "f", "g", "g x = x\nmain = g g (g g) 1"},
		renaming{"data L = N | C Int L\nf = C 1 f\nmain = case f of { C h t -> C h f ; N -> f }", "f", "g", "data L = N | C Int L\ng = C 1 g\nmain = case g of { C h t -> C h g ; N -> g }"},
		// Datas stay, and so do the other Decs and their order.
		renaming{"data A = B | C (Int -> A) Bool\ndata D = E A\na = 1\nb = a\nc = b\nmain = c", "b", "z", "data A = B | C (Int -> A) Bool\ndata D = E A\na = 1\nz = a\nc = z\nmain = c"}, renaming{"a = 1\nb = a\nc = b\nmain = c", "a", "zz9", "zz9 = 1\nb = zz9\nc = b\nmain = c"},
		// A Dec that is asked for by none but itself, and the last one.
		renaming{"main = 1\nf = f", "f", "g", "main = 1\ng = g"}, renaming{"main = g\ng = h\nh = 1", "h", "f", "main = g\ng = f\nf = 1"},
	)
}

// A name that stands elsewhere, too, stays where that binds it, and is turned beside it.
func TestRenameOfANameThatStandsElsewhere(t *testing.T) {
	wantRenames(t,
		renaming{"f = 1\nh f = f\nmain = h f", "f", "g", "g = 1\nh f = f\nmain = h g"}, renaming{"f f = f\nmain = f 1", "f", "g", "g f = f\nmain = g 1"}, renaming{"f = 1\nh x f = x f where { w = f }\nmain = f", "f", "g", "g = 1\nh x f = x f where { w = f }\nmain = g"}, renaming{"f = 1\nh x = x f\nmain = f", "f", "g", "g = 1\nh x = x g\nmain = g"},
		renaming{"f = 1\nh = f where { f = 2 }\nmain = h + f", "f", "g", "g = 1\nh = f where { f = 2 }\nmain = h + g"}, renaming{"f = 1\nh = w where { w = f ; f = 2 }\nmain = h + f", "f", "g", "g = 1\nh = w where { w = f ; f = 2 }\nmain = h + g"}, renaming{"f = f where { f = 2 }\nmain = f", "f", "g", "g = f where { f = 2 }\nmain = g"}, renaming{"f = 1\nh = f where { w = f where { f = 2 } }\nmain = h", "f", "g", "g = 1\nh = g where { w = f where { f = 2 } }\nmain = h"}, renaming{"f = 1\nh = f where { w f = f }\nmain = h", "f", "g", "g = 1\nh = g where { w f = f }\nmain = h"},
		renaming{"f = 1\nmain = (let f = 2 in f) + f", "f", "g", "g = 1\nmain = (let f = 2 in f) + g"}, renaming{"f = 1\nmain = let { f = 2 ; a = f } in f + a", "f", "g", "g = 1\nmain = let { f = 2 ; a = f } in f + a"}, renaming{"f = 1\nmain = let { a f = f ; b = f } in a b + f", "f", "g", "g = 1\nmain = let { a f = f ; b = g } in a b + g"}, renaming{"f = 1\nmain = let a = f in let f = a in f", "f", "g", "g = 1\nmain = let a = g in let f = a in f"},
		renaming{"f = 1\n" + `main = (\f -> f) f`, "f", "g", "g = 1\n" + `main = (\f -> f) g`}, renaming{"f = 1\n" + `main = (\x -> f) ((\f -> f + 1) f)`, "f", "g", "g = 1\n" + `main = (\x -> g) ((\f -> f + 1) g)`},
		renaming{"f = True\nmain = case f of { True -> f ; f -> f }", "f", "g", "g = True\nmain = case g of { True -> g ; f -> f }"}, renaming{"data T = A Int Int\nf = A 1 2\nmain = case f of { A f x -> f + x ; y -> case f of { A x f -> f } }", "f", "g", "data T = A Int Int\ng = A 1 2\nmain = case g of { A f x -> f + x ; y -> case g of { A x f -> f } }"},
		// What is bound of other names catches nothing.
		renaming{"f = 1\nmain = let { h = f } in case h of { x -> (\\y -> f + x) f }", "f", "g", "g = 1\nmain = let { h = g } in case h of { x -> (\\y -> g + x) g }"},
	)
}

// wantRefusedRename: the code, and the program as it is.
func wantRefusedRename(t *testing.T, what string, p impl.Prog, old, new string, code int) {
	t.Helper()
	got, is := impl.Rename(p, old, new)
	if is != code || !impl.SameProg(got, p) {
		t.Errorf("%s: Rename of %q to %q = %d, the same program: %v; want %d", what, old, new, is, impl.SameProg(got, p), code)
	}
}

const renameGiven = "data T = A Int | B\nf x = w + x\n  where\n    w = x + 1\nh p = let l q = q in case A p of\n    A c -> (\\m -> l m) c\n    o -> 7\nmain = f (h 1)"

// noNames are such as no Dec may be given.
func noNames() []string {
	return []string{"", "_", "A", "Great", "let", "in", "where", "case", "of", "if", "then", "else", "data", "1", "1a", "0", "a b", " a", "a ", "a_", "_a", "a'", "a-b", "->", "+", "toolongis", "abcdefghi", "\u00e9", "a\u00e9", "a\n", "a\x00", "\xff", "--", strings.Repeat("a", 10000)}
}

func TestRenameToNoName(t *testing.T) {
	p := progRead(t, renameGiven)
	for _, new := range noNames() {
		wantRefusedRename(t, "no name", p, "f", new, impl.ToForm)
		// Ahead of all that is asked of the old one.
		for _, old := range []string{"none", "w", "main", "A", "", new} {
			wantRefusedRename(t, "no name", p, old, new, impl.ToForm)
		}
	}
}

func TestRenameOfNoDec(t *testing.T) {
	p := progRead(t, renameGiven)
	// Bound only within, asked for nowhere, of no Dec, and main.
	for _, old := range append(noNames(), "w", "x", "p", "q", "l", "c", "m", "o", "none", "fresh", "T", "A", "B", "True", "Int", "main", "F", "ff", "f ") {
		wantRefusedRename(t, "no Dec", p, old, "fresh", impl.ToNone)
		// Ahead of what is asked of the new one.
		for _, new := range []string{"f", "h", "main", "w", "x", "o"} {
			wantRefusedRename(t, "no Dec", p, old, new, impl.ToNone)
		}
	}
	wantRefusedRename(t, "main that is taken", p, "main", "main", impl.ToNone)
}

// Taken is each name that stands anywhere: as a Dec, a Par, a name of a Where, a let, a lambda or an Alt, used or not.
func TestRenameToWhatIsTaken(t *testing.T) {
	p := progRead(t, renameGiven)
	for _, new := range []string{"f", "x", "w", "h", "p", "l", "q", "c", "m", "o", "main"} {
		if !slices.Contains(impl.NamesOf(p), new) {
			t.Error(new, "is none of", impl.NamesOf(p))
		}
		wantRefusedRename(t, "taken", p, "f", new, impl.ToTaken)
		wantRefusedRename(t, "taken", p, "h", new, impl.ToTaken)
	}
	for _, c := range []naming{
		{"f = 1\nk t = 2\nmain = 3", "f k t main"}, {"f = 1\nk = 2 where { t = 3 }\nmain = 3", "f k t"}, {"f = 1\nmain = 2 where { t u = 3 where { v = 4 } }", "t u v"}, {"f = 1\nmain = let t u = 2 in 3", "t u"}, {"f = 1\nmain = let t u = 2 where { v w = 5 } in 3", "t u v w"}, {`main = \t -> \u -> 2` + "\nf = 1", "t u"}, {"data T = A Int Int\nf = 1\nmain = case A 1 2 of { A t u -> 3 ; v -> 4 }", "t u v"},
		{"f t = 1\nmain = 3", "f t main"}, {"f = 1 where { t = 2 }\nmain = 3", "f t"}, {`f = (\t -> 1) 2` + "\nmain = f", "t"},
	} {
		for _, new := range strings.Fields(c.names) {
			wantRefusedRename(t, c.text, progRead(t, c.text), "f", new, impl.ToTaken)
		}
		seen := turning{kinds: map[int]int{}}
		checkTurned(t, progRead(t, c.text), "f", "fresh", []int{0, 10, 100}, &seen)
	}
	// Names of Datas and Cons, `_`, and what is told aside are no names of Decs.
	wantRenames(t, renaming{"data T = Aa Int -- bb\nf _ = Aa 1 -- cc\nmain = f 2", "f", "aa", "data T = Aa Int\naa _ = Aa 1\nmain = aa 2"}, renaming{"f _ = 1 -- cc\nmain = f 2", "f", "cc", "cc _ = 1\nmain = cc 2"})
}

// manyWrong answers programs that are not TypeOk, each of which has a Dec f.
func manyWrong(t *testing.T) []impl.Prog {
	l := []impl.Prog{{}, {Datas: []impl.Data{}, Decs: []impl.Dec{}}, {Datas: wholeProg().Datas}, wholeProg()}
	for _, s := range []string{"f = 1", "f = 1\nmain x = 2", "f = 1 2\nmain = 1", "f = 1\nmain = f 2", "f = none\nmain = 1", "f = A\nmain = 1", "f x = x x\nmain = 1", "f = if 1 then 2 else 3\nmain = 1", "data T = A U\nf = 1\nmain = 1", "f = 1\nmain = case 1 of { True -> 2 }", "data T = A Int\nf = 1\nmain = case A 1 of { A -> 2 }"} {
		l = append(l, progRead(t, s))
	}
	one, f := num(1), dec("f", num(1))
	for _, d := range [][]impl.Dec{{f}, {f, f}, {f, dec("main", one), f}, {f, dec("main", one), dec("A", one)}, {f, dec("main", num(-1))}, {f, dec("main", num(1000000))}, {f, dec("main", let(one))}, {f, dec("main", caseOf(one))}, {f, dec("main", one, "x", "x")}, {f, dec("main", overfull(impl.ELet))}, append(numbered(11), f, dec("main", one)), {f, dec("main", chain(13))}, {f, dec("main", sized(200))}, {f, dec("main", op("*", sized(100), sized(99)))}} {
		l = append(l, impl.Prog{Decs: d})
	}
	for _, d := range [][]impl.Data{{{}}, {data("T")}, {data("t", con("A"))}, {data("T", con("True"))}, {data("Int", con("A"))}, {data("T", con("A")), data("T", con("B"))}, {data("T", con("A", impl.Ty{}))}, {data("T", con("A", impl.Ty{K: impl.TVar, N: 3, L: []impl.Ty{{}, {K: 9, S: "s"}}}))}, {data("T", con("A", arrows(7)))}, {data("T", con("A", tyFun(tyInt(), tyInt()), tyData("U")), con("B", arrows(20), tyInt(), tyInt(), tyInt(), tyInt()))}} {
		l = append(l, impl.Prog{Datas: d, Decs: decs(f, dec("main", one))})
	}
	return l
}

func TestRenameOfWhatIsNotTypeOk(t *testing.T) {
	for i, p := range manyWrong(t) {
		what := "program " + strconv.Itoa(i)
		if impl.TypeOk(p) {
			t.Error(what, "has types")
		}
		kept := told(p)
		for _, c := range []naming{{"f", "g"}, {"f", "f"}, {"f", "main"}, {"main", "g"}, {"none", "g"}, {"f", ""}, {"", "A"}} {
			wantRefusedRename(t, what, p, c.text, c.names, impl.ToForm)
			if got, _ := impl.Rename(p, c.text, c.names); told(got) != kept {
				t.Errorf("%s: Rename of %q to %q = %s", what, c.text, c.names, told(got))
			}
		}
	}
}

// prog writes into all of p.
func (m *marker) prog(p impl.Prog) {
	m.decs(p.Decs)
	for i := range p.Datas {
		d := &p.Datas[i]
		if !m.note(d.Name == writtenName) {
			continue
		}
		d.Name = writtenName
		for j := range d.Cons {
			c := &d.Cons[j]
			if m.note(c.Name == writtenName) {
				c.Name = writtenName
				m.tys(c.Args)
			}
		}
	}
}

func (m *marker) tys(l []impl.Ty) {
	for i := range l {
		if m.note(l[i].K == written) {
			l[i].K = written
			m.tys(l[i].L)
		}
	}
}

// A kept is a program that is not TypeOk, and whether memory holds all of its lists.
type kept struct {
	what   string
	p      impl.Prog
	isHeld bool
}

// wantKept is of what is refused: the answer is the same, and shares nothing with it; nor do its own lists with each
// other, where memory holds them.
func wantKept(t *testing.T, turn func(p impl.Prog) (impl.Prog, int), l ...kept) {
	t.Helper()
	for _, c := range l {
		got, code := turn(c.p)
		if code != impl.ToForm || !impl.SameProg(got, c.p) {
			t.Errorf("%s: the code %d, the same program: %v", c.what, code, impl.SameProg(got, c.p))
		}
		var m marker
		m.prog(got)
		if c.isHeld && m.again > 0 {
			t.Errorf("%s: of %d places %d are shared with others", c.what, m.places, m.again)
		}
		if again, _ := turn(c.p); impl.SameProg(c.p, got) || !impl.SameProg(again, c.p) {
			t.Errorf("%s: the program was written into", c.what)
		}
	}
}

func renameToG(p impl.Prog) (impl.Prog, int) { return impl.Rename(p, "f", "g") }

func farTooLarge() []kept {
	const many = 100000
	ofDatas := func(l ...impl.Data) impl.Prog { return impl.Prog{Datas: l, Decs: decs(dec("f", num(1)))} }
	ofExp := func(e impl.Exp) impl.Prog { return impl.Prog{Decs: decs(dec("f", e), dec("main", num(1), "x"))} }
	l := []kept{
		{"Decs", impl.Prog{Decs: numbered(many)}, true}, {"Wheres", impl.Prog{Decs: decs(wheres(many))}, true}, {"a Dec of many Pars", impl.Prog{Decs: decs(dec("f", num(1), make([]string, many)...))}, true},
		{"Datas", ofDatas(make([]impl.Data, many)...), true}, {"Cons", ofDatas(data("T", make([]impl.Con, many)...)), true}, {"Args", ofDatas(data("T", con("A", make([]impl.Ty, many)...))), true}, {"arrows", ofDatas(data("T", con("A", arrows(many), leftArrows(many)))), true},
		{"lambdas", ofExp(chain(many)), true}, {"parts", ofExp(sized(many)), true},
	}
	for _, c := range twices() {
		for _, times := range []int{3, 10, 64, 200} {
			l = append(l, kept{c.what + ", " + strconv.Itoa(times) + " times", ofExp(doubled(times, c.of)), times < 20})
		}
	}
	for _, times := range []int{1, 2, 10, 15, 64, 200} {
		ty := tyInt()
		for range times {
			ty = tyFun(ty, ty)
		}
		args := []impl.Ty{ty, ty}
		cons := []impl.Con{con("A", args...), con("B", args...), con("C", args[:1]...)}
		l = append(l, kept{"arrows, " + strconv.Itoa(times) + " times", ofDatas(data("T", cons...), data("U", cons...), data("V", cons[1:]...)), times < 20})
	}
	return l
}

func TestRenameOfProgramsFarTooLarge(t *testing.T) { wantKept(t, renameToG, farTooLarge()...) }

// Lists of a program's types that stand at so many places that no memory holds them all.
func TestRenameOfDatasThatCannotBeHeld(t *testing.T) {
	const many = 50000
	args := slices.Repeat([]impl.Ty{tyInt()}, many)
	cons := slices.Repeat([]impl.Con{con("A", args...)}, many)
	few := slices.Repeat([]impl.Con{con("A", args[:2]...)}, many)
	for _, datas := range [][]impl.Data{{data("T", cons...), data("U", cons...)}, slices.Repeat([]impl.Data{data("T", few...)}, many)} {
		got, code := impl.Rename(impl.Prog{Datas: datas, Decs: decs(dec("f", num(1)))}, "f", "g")
		if code != impl.ToForm || len(got.Datas) != len(datas) || len(got.Decs) != 1 {
			t.Fatal("Rename is another one:", code, len(got.Datas))
		}
		last := got.Datas[len(datas)-1].Cons
		wanted := datas[0].Cons[many-1].Args
		if len(last) != many || !slices.EqualFunc(last[many-1].Args, wanted, impl.SameTy) || &last[0] == &datas[0].Cons[0] || &last[many-1].Args[0] == &wanted[0] {
			t.Error("Rename is another one, or shares lists with the program")
		}
	}
}

func goingRound() []kept {
	one := decs(dec("f", num(1)), dec("main", num(1)))
	tys := make([]impl.Ty, 2)
	tys[0], tys[1] = impl.Ty{K: impl.TFun, L: tys}, tyInt()
	wheres := make([]impl.Dec, 2)
	wheres[0], wheres[1] = impl.Dec{Name: "f", Pars: []string{"x"}, E: vr("f"), Where: wheres}, dec("main", num(1))
	calls := make([]impl.Exp, 2)
	calls[0], calls[1] = impl.Exp{K: impl.EApp, L: calls}, vr("f")
	return []kept{
		{"a type", impl.Prog{Datas: []impl.Data{data("T", con("A", tys...), con("B", tys[1:]...))}, Decs: one}, false},
		{"a Where", impl.Prog{Decs: wheres}, false},
		{"a call", impl.Prog{Datas: wholeProg().Datas, Decs: decs(dec("f", calls[0]), dec("main", impl.Exp{K: impl.ELam, S: "f", L: calls}))}, false},
	}
}

func TestRenameOfProgramsThatGoRound(t *testing.T) { wantKept(t, renameToG, goingRound()...) }

// sumOf answers an Exp of just n Exps that is an Int, and has e, which is one, at many places.
func sumOf(n int, e impl.Exp) impl.Exp {
	if n%3 == 1 {
		return tree((n+2)/3, e)
	}
	return op("+", sumOf(n-2, e), num(1))
}

// At the limits: of each one met exactly a name is turned, and one beyond there are no types.
func TestRenameAtTheLimits(t *testing.T) {
	const longest = "abcdefgh"
	wantRenames(t, renaming{"f = 1\nmain = f", "f", longest, longest + " = 1\nmain = " + longest}, renaming{longest + " = 1\nmain = " + longest, longest, "bcdefghi", "bcdefghi = 1\nmain = bcdefghi"}, renaming{longest + " = 1\nmain = " + longest, longest, "abcdefg", "abcdefg = 1\nmain = abcdefg"}, renaming{"f = 1\nmain = f", "f", "zZ0123aA", "zZ0123aA = 1\nmain = zZ0123aA"})
	wantRefusedRename(t, "one sign too many", progRead(t, "f = 1\nmain = f"), "f", longest+"i", impl.ToForm)
	limits := map[string]func(n int) []impl.Dec{
		"Decs": func(n int) []impl.Dec {
			return append(numbered(n-2), dec("f", num(1)), dec("main", vr("f")))
		},
		"Exps": func(n int) []impl.Dec { return decs(dec("f", num(1)), dec("main", sumOf(n-1, vr("f")))) },
		"deep": func(n int) []impl.Dec {
			e := vr("f")
			for range n - 1 {
				e = lam("_", e)
			}
			return decs(dec("f", num(1)), dec("main", e))
		},
	}
	for what, most := range map[string]int{"Decs": 12, "Exps": 200, "deep": 12} {
		for n := most - 3; n <= most+3; n++ {
			p := impl.Prog{Decs: limits[what](n)}
			if impl.TypeOk(p) != (n <= most) || what == "Exps" && impl.Size(let(num(1), p.Decs...)) != n+2 {
				t.Errorf("%d %s: TypeOk = %v", n, what, impl.TypeOk(p))
				continue
			}
			if n > most {
				wantKept(t, renameToG, kept{strconv.Itoa(n) + " " + what, p, true})
				continue
			}
			seen := turning{kinds: map[int]int{}}
			for _, d := range p.Decs {
				if d.Name != "main" {
					checkTurned(t, p, d.Name, longest, []int{0, 1, 2, 10, 1000}, &seen)
				}
			}
		}
	}
	// As many types as may be asked for, and one more.
	for _, n := range []int{impl.MaxVars - 1, impl.MaxVars} {
		p := impl.Prog{Decs: append(asking(n), dec("main", num(1)))}
		seen := turning{kinds: map[int]int{}}
		if impl.TypeOk(p) != (n < impl.MaxVars) {
			t.Error(n, "types and one of main: TypeOk =", impl.TypeOk(p))
		} else if impl.TypeOk(p) {
			checkTurned(t, p, "big", longest, []int{10}, &seen)
		} else {
			wantKept(t, renameToG, kept{"too many types", p, true})
		}
	}
}

// Lists of a program that stand at several places: where the name is bound, and where it is not.
func TestRenameOfSharedLists(t *testing.T) {
	half := app(vr("f"), num(2))
	alts := []impl.Alt{alt("", half, "x"), alt("", half, "_")}
	pars := []string{"f"}
	p := impl.Prog{Decs: decs(
		dec("f", op("+", vr("x"), num(1)), "x"), dec("g", op("*", half, half)), impl.Dec{Name: "h", Pars: pars, E: half}, impl.Dec{Name: "k", Pars: pars, E: impl.Exp{K: impl.ECase, L: []impl.Exp{half}, Alts: alts}},
		dec("main", op("+", impl.Exp{K: impl.ECase, L: []impl.Exp{half}, Alts: alts}, op("+", app(vr("h"), vr("f")), vr("g")))),
	)}
	if !impl.TypeOk(p) {
		t.Fatal(impl.ProgText(p))
	}
	seen := turning{kinds: map[int]int{}}
	for _, d := range p.Decs[:4] {
		checkTurned(t, p, d.Name, "new", []int{0, 5, 10, 100, impl.MaxFuel}, &seen)
		got, _ := impl.Rename(p, d.Name, "new")
		var m marker
		m.prog(got)
		if m.again > 0 {
			t.Errorf("Rename of %s: of %d places %d are shared with others", d.Name, m.places, m.again)
		}
	}
	if pars[0] != "f" || told(half) != told(app(vr("f"), num(2))) {
		t.Error("the program was written into")
	}
}

// renameAnswers are answers of one program, of each code.
type renameAnswers struct {
	Progs []impl.Prog
	Codes []int
}

func askRename(p impl.Prog) (a renameAnswers) {
	for _, c := range []naming{{"f", "new"}, {"h", "new"}, {"f", "A"}, {"main", "new"}, {"w", "new"}, {"f", "x"}, {"f", "f"}} {
		q, code := impl.Rename(p, c.text, c.names)
		a.Progs, a.Codes = append(a.Progs, q), append(a.Codes, code)
	}
	return a
}

func TestRenameIsNewMemory(t *testing.T) {
	wrong := progRead(t, renameGiven)
	wrong.Decs[1].E.Decs[0].Pars = []string{"q", "q"}
	for i, base := range []impl.Prog{progRead(t, renameGiven), progRead(t, runGiven+"f x = main\nh = f\nmain = 1"), wholeProg(), wrong, {}} {
		p := roomy(reflect.ValueOf(base)).Interface().(impl.Prog)
		kept := toldWithRoom(reflect.ValueOf(p))
		want := askRename(base)
		if i == 0 && !slices.Equal(want.Codes, []int{impl.ToGood, impl.ToGood, impl.ToForm, impl.ToNone, impl.ToNone, impl.ToTaken, impl.ToTaken}) {
			t.Error("not of each code:", want.Codes)
		}
		for range 3 {
			got := askRename(p)
			if told(got) != told(want) {
				t.Errorf("program %d: an answer hangs on the room behind, or was kept: %+v", i, got)
			}
			sharesNothing(t, "Rename", reflect.ValueOf(struct {
				Asked    impl.Prog
				Answered []impl.Prog
			}{p, got.Progs}))
			spoilAll(reflect.ValueOf(&got.Progs).Elem())
		}
		if toldWithRoom(reflect.ValueOf(p)) != kept {
			t.Errorf("program %d was written into", i)
		}
	}
}

// Of what is refused each part is kept, whatever it is changed to.
func TestRenameKeepsEachPart(t *testing.T) {
	first := wholeProg()
	for i := range changes(reflect.ValueOf(&first).Elem()) {
		changed := wholeProg()
		changes(reflect.ValueOf(&changed).Elem())[i]()
		want, wantCode := changed, renameCodeByHand(changed, "k", "new")
		if wantCode == impl.ToGood {
			want = renameByHand(changed, "k", "new")
		}
		if got, code := impl.Rename(changed, "k", "new"); code != wantCode || told(got) != told(want) {
			t.Errorf("change %d: Rename = %+v, %d", i, got, code)
		}
	}
}

// What came of one Rename is nothing to another.
func TestNothingIsKeptOfRenames(t *testing.T) {
	for range 3 {
		wantRenames(t, renaming{"f = 1\nmain = f", "f", "g", "g = 1\nmain = g"}, renaming{"g = 1\nmain = g", "g", "f", "f = 1\nmain = f"})
		wantRefusedRename(t, "taken", progRead(t, "f = 1\ng = 2\nmain = f"), "f", "g", impl.ToTaken)
		wantSwaps(t, "f", "g", swappedText{"f g", "g g"}, swappedText{`\f -> f`, `\f -> f`})
		wantSwaps(t, "g", "f", swappedText{"f g", "f f"}, swappedText{`\f -> g`, `\f -> f`})
		wantRefusedRename(t, "no program", impl.Prog{}, "f", "g", impl.ToForm)
	}
}
