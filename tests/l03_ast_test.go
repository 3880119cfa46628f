package tests

import (
	"math"
	"math/rand"
	"reflect"
	"slices"
	"strconv"
	"strings"
	"testing"

	"loop.example/g00471/impl"
)

func vr(s string) impl.Exp { return impl.Exp{K: impl.EVar, S: s} }

func great(s string) impl.Exp { return impl.Exp{K: impl.EGreat, S: s} }

func num(n int) impl.Exp { return impl.Exp{K: impl.ENum, N: n} }

func app(f, x impl.Exp) impl.Exp { return impl.Exp{K: impl.EApp, L: []impl.Exp{f, x}} }

func lam(s string, body impl.Exp) impl.Exp {
	return impl.Exp{K: impl.ELam, S: s, L: []impl.Exp{body}}
}

func let(body impl.Exp, l ...impl.Dec) impl.Exp {
	return impl.Exp{K: impl.ELet, L: []impl.Exp{body}, Decs: l}
}

func caseOf(e impl.Exp, l ...impl.Alt) impl.Exp {
	return impl.Exp{K: impl.ECase, L: []impl.Exp{e}, Alts: l}
}

func ifs(a, b, c impl.Exp) impl.Exp { return impl.Exp{K: impl.EIf, L: []impl.Exp{a, b, c}} }

func op(s string, a, b impl.Exp) impl.Exp {
	return impl.Exp{K: impl.EOp, S: s, L: []impl.Exp{a, b}}
}

func alt(g string, e impl.Exp, vars ...string) impl.Alt {
	return impl.Alt{Great: g, Vars: vars, E: e}
}

func dec(s string, e impl.Exp, pars ...string) impl.Dec {
	return impl.Dec{Name: s, Pars: pars, E: e}
}

func with(d impl.Dec, where ...impl.Dec) impl.Dec {
	d.Where = where
	return d
}

func decs(l ...impl.Dec) []impl.Dec { return l }

// numbered answers n Decs, each of a number alone.
func numbered(n int) []impl.Dec {
	l := []impl.Dec{}
	for i := range n {
		l = append(l, dec("d"+strconv.Itoa(i), num(i)))
	}
	return l
}

func tyInt() impl.Ty { return impl.Ty{K: impl.TInt} }

func tyData(s string) impl.Ty { return impl.Ty{K: impl.TData, S: s} }

func tyFun(a, b impl.Ty) impl.Ty { return impl.Ty{K: impl.TFun, L: []impl.Ty{a, b}} }

func con(s string, args ...impl.Ty) impl.Con { return impl.Con{Name: s, Args: args} }

func data(s string, cons ...impl.Con) impl.Data { return impl.Data{Name: s, Cons: cons} }

func progOf(datas ...impl.Data) impl.Prog {
	return impl.Prog{Datas: datas, Decs: decs(dec("main", num(0)))}
}

func wantExp(t *testing.T, what string, e impl.Exp, want bool) {
	t.Helper()
	if impl.ExpOk(e) != want {
		t.Errorf("%s: ExpOk(%+v) = %v", what, e, !want)
	}
}

func wantDecs(t *testing.T, what string, l []impl.Dec, want bool) {
	t.Helper()
	if impl.DecsOk(l) != want {
		t.Errorf("%s: DecsOk(%+v) = %v", what, l, !want)
	}
}

func wantProg(t *testing.T, what string, p impl.Prog, want bool) {
	t.Helper()
	if impl.ProgOk(p) != want {
		t.Errorf("%s: ProgOk(%+v) = %v", what, p, !want)
	}
}

// eachKind answers a right Exp of each kind.
func eachKind() []impl.Exp {
	return []impl.Exp{
		vr("x"),
		great("A"),
		num(7),
		app(vr("f"), num(1)),
		lam("x", vr("x")),
		let(vr("a"), dec("a", num(1))),
		caseOf(vr("x"), alt("A", num(1), "y")),
		ifs(great("True"), num(1), num(2)),
		op("+", num(1), num(2)),
	}
}

func TestNumbersOfKinds(t *testing.T) {
	kinds := []int{impl.EVar, impl.EGreat, impl.ENum, impl.EApp, impl.ELam, impl.ELet, impl.ECase, impl.EIf, impl.EOp}
	if !slices.Equal(kinds, []int{1, 2, 3, 4, 5, 6, 7, 8, 9}) {
		t.Error(kinds)
	}
}

func TestExpOkOfEachKind(t *testing.T) {
	for _, e := range eachKind() {
		wantExp(t, "right", e, true)
		// With empty lists in the place of nil it is the same.
		full := e
		if full.L == nil {
			full.L = []impl.Exp{}
		}
		if full.Decs == nil {
			full.Decs = []impl.Dec{}
		}
		if full.Alts == nil {
			full.Alts = []impl.Alt{}
		}
		wantExp(t, "empty lists", full, true)
	}
	for _, a := range eachKind() {
		for _, b := range eachKind() {
			for _, e := range []impl.Exp{
				app(a, b), lam("x", a), lam("_", a), let(a, dec("f", b, "x")), let(num(1), with(dec("f", a), dec("g", b))),
				caseOf(a, alt("", b, "_")), caseOf(num(1), alt("A", a), alt("B", b, "_", "_")), ifs(a, b, a), op("==", a, b),
			} {
				wantExp(t, "of two kinds", e, true)
			}
		}
	}
}

func TestExpOkOfNoKind(t *testing.T) {
	for _, e := range append(eachKind(), impl.Exp{}) {
		for _, k := range []int{0, 10, -1, 11, 99, math.MaxInt, math.MinInt} {
			e.K = k
			wantExp(t, "no kind", e, false)
			wantExp(t, "a part of no kind", lam("x", e), false)
		}
	}
	// What is right of one kind is not so of another one with other parts.
	for i, e := range eachKind() {
		for k := range 9 {
			e.K = k + 1
			alike := k == i
			wantExp(t, "another kind", e, alike)
		}
	}
}

// A part that is wrong is found wherever it stands.
func TestExpOkOfWrongParts(t *testing.T) {
	for _, bad := range []impl.Exp{{}, num(-1), vr("A"), {K: impl.ELet, L: []impl.Exp{num(1)}}} {
		one := num(1)
		for i, e := range []impl.Exp{
			app(bad, one), app(one, bad), lam("x", bad), let(bad, dec("a", one)), let(one, dec("a", bad)), let(one, dec("a", one), dec("b", bad)),
			let(one, with(dec("a", one), dec("b", bad))), let(one, with(dec("a", one), with(dec("b", one), dec("c", bad)))),
			caseOf(bad, alt("A", one)), caseOf(one, alt("A", bad)), caseOf(one, alt("A", one), alt("", bad, "x")),
			ifs(bad, one, one), ifs(one, bad, one), ifs(one, one, bad), op("+", bad, one), op("+", one, bad),
		} {
			wantExp(t, "wrong part "+strconv.Itoa(i), e, false)
			wantDecs(t, "wrong part "+strconv.Itoa(i), decs(dec("a", e)), false)
			wantProg(t, "wrong part "+strconv.Itoa(i), impl.Prog{Decs: decs(dec("a", one), dec("b", e))}, false)
		}
	}
}

func TestExpOkNoMoreThanItsKindTells(t *testing.T) {
	for i, right := range eachKind() {
		k := i + 1
		e := right
		e.S = "x"
		if k == impl.EVar || k == impl.ELam {
			e.S = "X"
		}
		wantExp(t, "a text", e, false)
		for _, n := range []int{1, -1, math.MaxInt, math.MinInt} {
			e = right
			e.N += n
			wantExp(t, "a number", e, k == impl.ENum && (n == 1 || n == -1))
		}
		e = right
		e.L = append(slices.Clone(right.L), num(1))
		wantExp(t, "a part more", e, false)
		e.L = append(slices.Clone(right.L), num(1), num(2))
		wantExp(t, "two parts more", e, false)
		if len(right.L) > 0 {
			e.L = right.L[:len(right.L)-1]
			wantExp(t, "a part less", e, false)
			e.L = nil
			wantExp(t, "no parts", e, false)
		}
		e = right
		e.Decs = append(slices.Clone(right.Decs), dec("z", num(1)))
		wantExp(t, "a Dec", e, k == impl.ELet)
		e = right
		e.Alts = append(slices.Clone(right.Alts), alt("Z", num(1)))
		wantExp(t, "an Alt", e, k == impl.ECase)
	}
	for _, k := range []int{impl.EVar, impl.EGreat, impl.ELam, impl.EOp} {
		e := eachKind()[k-1]
		e.S = ""
		wantExp(t, "no text", e, false)
	}
}

func TestExpOkNumbers(t *testing.T) {
	for n, want := range map[int]bool{
		0: true, 1: true, 999998: true, 999999: true,
		1000000: false, 1000001: false, -1: false, -999999: false, math.MaxInt: false, math.MinInt: false,
	} {
		wantExp(t, "number", num(n), want)
		wantExp(t, "number within", lam("x", num(n)), want)
	}
}

func TestExpOkNames(t *testing.T) {
	one := num(1)
	check := func(s string, isName, isGreat bool) {
		t.Helper()
		par := isName || s == "_"
		wantExp(t, "EVar "+s, vr(s), isName)
		wantExp(t, "EGreat "+s, great(s), isGreat)
		wantExp(t, "ELam "+s, lam(s, one), par)
		wantExp(t, "Alt's Great "+s, caseOf(one, alt(s, one, "x")), isGreat || s == "")
		wantExp(t, "Alt's Great without Vars "+s, caseOf(one, alt(s, one)), isGreat)
		wantExp(t, "Alt's Var "+s, caseOf(one, alt("", one, s)), par)
		wantExp(t, "Alt's Var among others "+s, caseOf(one, alt("A", one, "q", s)), par)
		wantExp(t, "Name "+s, let(one, dec(s, one)), isName)
		wantExp(t, "Par "+s, let(one, dec("a", one, s)), par)
		wantExp(t, "Par among others "+s, let(one, dec("a", one, "q", s)), par)
		wantExp(t, "Name of a Where "+s, let(one, with(dec("a", one), dec(s, one))), isName)
		wantDecs(t, "Name "+s, decs(dec(s, one)), isName)
		wantDecs(t, "Par "+s, decs(dec("a", one, s)), par)
	}
	for _, s := range []string{"a", "z9", "main", "eightlet", "lets", "true", "iNT"} {
		check(s, true, false)
	}
	for _, s := range []string{"A", "Z9", "True", "False", "Int", "Bool", "Let", "EIGHTLET"} {
		check(s, false, true)
	}
	for _, s := range append([]string{"", "_", "__", "_a", "a_", "0", "0a", "a b", " a", "a ", "A ", "ninesigns", "NINESIGNS", "é", "É", "a\xff", "+", "->", "a\n", strings.Repeat("a", 100000)}, allWords...) {
		check(s, false, false)
	}
}

func TestExpOkOperators(t *testing.T) {
	for _, s := range []string{"+", "-", "*", "==", "<"} {
		wantExp(t, "operator", op(s, num(1), num(2)), true)
	}
	for _, s := range []string{"", "/", "=", "===", "<=", ">", "->", "|", "+ ", " +", "++", "--", "a", "A", "\\", "1"} {
		wantExp(t, "no operator", op(s, num(1), num(2)), false)
	}
}

func TestExpOkAlts(t *testing.T) {
	one := num(1)
	alts := func(n int) []impl.Alt {
		l := []impl.Alt{}
		for i := range n {
			l = append(l, alt("A"+strconv.Itoa(i), one))
		}
		return l
	}
	for n, want := range map[int]bool{0: false, 1: true, 2: true, 5: true, 6: true, 7: false, 8: false, 1000: false} {
		wantExp(t, strconv.Itoa(n)+" Alts", caseOf(one, alts(n)...), want)
	}
	wantExp(t, "Alts of one great name", caseOf(one, alt("A", one), alt("A", one), alt("", one, "x"), alt("", one, "x")), true)
	vars := []string{"a", "b", "c", "d", "e", "f"}
	for n := range 7 {
		wantExp(t, strconv.Itoa(n)+" Vars", caseOf(one, alt("A", one, vars[:n]...)), n <= 4)
		wantExp(t, strconv.Itoa(n)+" Vars of no great name", caseOf(one, alt("", one, vars[:n]...)), n == 1)
		wantExp(t, strconv.Itoa(n)+" Vars that are _", caseOf(one, alt("A", one, slices.Repeat([]string{"_"}, n)...)), n <= 4)
		wantExp(t, strconv.Itoa(n)+" Vars that are _, of no great name", caseOf(one, alt("", one, slices.Repeat([]string{"_"}, n)...)), n == 1)
	}
	wantExp(t, "the second Alt of no great name", caseOf(one, alt("A", one), alt("", one)), false)
	wantExp(t, "empty Vars", caseOf(one, impl.Alt{Great: "A", Vars: []string{}, E: one}), true)
	wantExp(t, "empty Vars of no great name", caseOf(one, impl.Alt{Vars: []string{}, E: one}), false)
	wantExp(t, "no Alt in it", caseOf(one, impl.Alt{}), false)
}

func TestNamesThatAreAlike(t *testing.T) {
	one := num(1)
	for _, c := range []struct {
		names string
		want  bool
	}{
		{"a b", true}, {"a b c d", true}, {"_ _", true}, {"_ a _", true}, {"a _ b _", true}, {"_ _ _ _", true}, {"a aa", true}, {"a aB ab aBc", true},
		{"a a", false}, {"a b a", false}, {"b a a", false}, {"a a b c", false}, {"a b c a", false}, {"a b c b", false}, {"_ a a", false}, {"a _ a", false}, {"a _ _ a", false},
		{"a b c d e", false}, {"_ _ _ _ _", false},
	} {
		l := strings.Fields(c.names)
		wantExp(t, "Vars "+c.names, caseOf(one, alt("A", one, l...)), c.want)
		wantExp(t, "Vars of the second "+c.names, caseOf(one, alt("A", one), alt("B", one, l...)), c.want)
		wantExp(t, "Pars "+c.names, let(one, dec("f", one, l...)), c.want)
		wantExp(t, "Pars of a Where "+c.names, let(one, with(dec("f", one), dec("g", one, l...))), c.want)
		wantDecs(t, "Pars "+c.names, decs(dec("f", one, l...)), c.want)
		wantProg(t, "Pars "+c.names, impl.Prog{Decs: decs(dec("f", one, l...))}, c.want)
	}
	// What is bound further in, or beside, may be named alike.
	wantExp(t, "lambdas alike", lam("x", lam("x", vr("x"))), true)
	wantExp(t, "Vars of two Alts", caseOf(one, alt("A", one, "x"), alt("B", one, "x")), true)
	wantExp(t, "a Var and what is bound within", caseOf(one, alt("A", lam("x", one), "x")), true)
	wantDecs(t, "a Par of the Dec's own Name", decs(dec("f", one, "f")), true)
	wantDecs(t, "Pars of two Decs", decs(dec("f", one, "x"), dec("g", one, "x")), true)
	wantDecs(t, "a Par and another Dec", decs(dec("f", one, "g"), dec("g", one, "f")), true)
	wantDecs(t, "a Par and a Dec of the Where", decs(with(dec("f", one, "x"), dec("x", one))), true)
	wantDecs(t, "a Dec and one of its Where", decs(with(dec("f", one), dec("f", one))), true)
	wantDecs(t, "Decs of two Wheres", decs(with(dec("f", one), dec("a", one)), with(dec("g", one), dec("a", one))), true)
}

func TestDecsThatAreAlike(t *testing.T) {
	one := num(1)
	named := func(names string) []impl.Dec {
		l := []impl.Dec{}
		for i, s := range strings.Fields(names) {
			l = append(l, dec(s, num(i)))
		}
		return l
	}
	for _, c := range []struct {
		names string
		want  bool
	}{
		{"", false}, {"a", true}, {"a b", true}, {"a b c d e f", true}, {"a aa aA", true},
		{"a a", false}, {"a b a", false}, {"b a a", false}, {"a b c d e a", false}, {"a b c d e e", false}, {"_ _", false}, {"a _", false},
	} {
		l := named(c.names)
		wantDecs(t, c.names, l, c.want)
		wantExp(t, c.names, let(one, l...), c.want)
		wantExp(t, c.names, let(one, with(dec("z", one), l...)), c.want || len(l) == 0)
		wantDecs(t, c.names, decs(with(dec("z", one), l...)), c.want || len(l) == 0)
		wantProg(t, c.names, impl.Prog{Decs: l}, c.want)
		wantProg(t, c.names, impl.Prog{Decs: decs(with(dec("z", one), l...))}, c.want || len(l) == 0)
	}
	wantDecs(t, "alike, with other Pars", decs(dec("f", one), dec("f", one, "x")), false)
}

func TestHowManyDecs(t *testing.T) {
	one := num(1)
	for _, n := range []int{0, 1, 2, 5, 6, 7, 8, 11, 12, 13, 14, 100} {
		what := strconv.Itoa(n) + " Decs"
		l := numbered(n)
		wantDecs(t, what, l, 1 <= n && n <= 6)
		wantProg(t, what, impl.Prog{Decs: l}, 1 <= n && n <= 12)
		wantExp(t, what, let(one, l...), 1 <= n && n <= 6)
		wantExp(t, what+" of a Where", let(one, with(dec("z", one), l...)), n <= 6)
		wantDecs(t, what+" of a Where", decs(with(dec("z", one), l...)), n <= 6)
		wantProg(t, what+" of a Where", impl.Prog{Decs: decs(with(dec("z", one), l...))}, n <= 6)
		wantProg(t, what+" of a let", impl.Prog{Decs: decs(dec("z", let(one, l...)))}, 1 <= n && n <= 6)
	}
	wantDecs(t, "nil", nil, false)
	wantDecs(t, "a Dec with nothing in it", []impl.Dec{{}}, false)
	wantDecs(t, "an empty Where", []impl.Dec{{Name: "a", Pars: []string{}, E: one, Where: []impl.Dec{}}}, true)
	// What lies behind the length is not looked at.
	wantDecs(t, "behind the length", numbered(7)[:6], true)
}

// downs are the ways down from an Exp to one of its parts, each with how much deeper that is.
var downs = []struct {
	what string
	deep int
	wrap func(e impl.Exp) impl.Exp
}{
	{"what is called", 1, func(e impl.Exp) impl.Exp { return app(e, num(1)) }},
	{"what it is called with", 1, func(e impl.Exp) impl.Exp { return app(num(1), e) }},
	{"a lambda's body", 1, func(e impl.Exp) impl.Exp { return lam("_", e) }},
	{"a let's body", 1, func(e impl.Exp) impl.Exp { return let(e, dec("a", num(1))) }},
	{"a let's Dec", 2, func(e impl.Exp) impl.Exp { return let(num(1), dec("a", e)) }},
	{"a let's second Dec", 2, func(e impl.Exp) impl.Exp { return let(num(1), dec("a", num(1)), dec("b", e)) }},
	{"a Dec of a Where", 3, func(e impl.Exp) impl.Exp { return let(num(1), with(dec("a", num(1)), dec("b", e))) }},
	{"a Dec of a Where's Where", 4, func(e impl.Exp) impl.Exp {
		return let(num(1), with(dec("a", num(1)), with(dec("b", num(1)), dec("c", e))))
	}},
	{"what is looked at", 1, func(e impl.Exp) impl.Exp { return caseOf(e, alt("A", num(1))) }},
	{"an Alt", 1, func(e impl.Exp) impl.Exp { return caseOf(num(1), alt("A", e)) }},
	{"the last Alt", 1, func(e impl.Exp) impl.Exp { return caseOf(num(1), alt("A", num(1)), alt("", e, "_")) }},
	{"what is asked", 1, func(e impl.Exp) impl.Exp { return ifs(e, num(1), num(1)) }},
	{"then", 1, func(e impl.Exp) impl.Exp { return ifs(num(1), e, num(1)) }},
	{"else", 1, func(e impl.Exp) impl.Exp { return ifs(num(1), num(1), e) }},
	{"an operator's left", 1, func(e impl.Exp) impl.Exp { return op("+", e, num(1)) }},
	{"an operator's right", 1, func(e impl.Exp) impl.Exp { return op("+", num(1), e) }},
}

// chain answers an Exp that is deep deep, of lambdas.
func chain(deep int) impl.Exp {
	e := num(1)
	for range deep - 1 {
		e = lam("_", e)
	}
	return e
}

func TestHowDeep(t *testing.T) {
	for deep := 1; deep <= 16; deep++ {
		what := strconv.Itoa(deep) + " deep"
		e := chain(deep)
		wantExp(t, what, e, deep <= 12)
		for _, d := range downs {
			wantExp(t, what+" below "+d.what, d.wrap(e), deep+d.deep <= 12)
			for _, d2 := range downs {
				wantExp(t, what+" below "+d.what+" and "+d2.what, d.wrap(d2.wrap(e)), deep+d.deep+d2.deep <= 12)
			}
		}
		// Decs alone are 0 deep, a body of theirs 1, a Dec of a Where 1, that one's body 2.
		for _, c := range []struct {
			what string
			l    []impl.Dec
			deep int
		}{
			{" in a Dec", decs(dec("a", e)), 0},
			{" in the last Dec", decs(dec("a", num(1)), dec("b", e)), 0},
			{" in a Where", decs(with(dec("a", num(1)), dec("b", e))), 1},
			{" in the last Dec of a Where", decs(with(dec("a", num(1)), dec("b", num(1)), dec("c", e))), 1},
			{" in a Where's Where", decs(with(dec("a", num(1)), with(dec("b", num(1)), dec("c", e)))), 2},
			{" in a let of a Dec", decs(dec("a", let(num(1), dec("b", e)))), 2},
			{" in a let of a Where", decs(with(dec("a", num(1)), dec("b", let(num(1), dec("c", e))))), 3},
			{" in a Where of a let of a Dec", decs(dec("a", let(num(1), with(dec("b", num(1)), dec("c", e))))), 3},
		} {
			wantDecs(t, what+c.what, c.l, deep+c.deep <= 12)
			wantProg(t, what+c.what, impl.Prog{Decs: c.l}, deep+c.deep <= 12)
		}
	}
	for _, d := range downs {
		// Beside the body of the innermost let its Dec would be 13 deep.
		if d.deep != 1 || d.what == "a let's body" {
			continue
		}
		e := num(1)
		for range 11 {
			e = d.wrap(e)
		}
		wantExp(t, "12 deep by "+d.what, e, true)
		wantExp(t, "13 deep by "+d.what, d.wrap(e), false)
	}
	// By Wheres alone: the body of the n-th Dec is n deep, and of a let n + 2.
	for n := 1; n <= 15; n++ {
		wantDecs(t, strconv.Itoa(n)+" Wheres", decs(wheres(n)), n <= 12)
		wantProg(t, strconv.Itoa(n)+" Wheres", impl.Prog{Decs: decs(wheres(n))}, n <= 12)
		wantExp(t, strconv.Itoa(n)+" Wheres", let(num(1), wheres(n)), n+2 <= 12)
	}
}

// wheres answers n Decs, each in the Where of the one ahead.
func wheres(n int) impl.Dec {
	d := dec("a", num(1))
	for range n - 1 {
		d = with(dec("a", num(1)), d)
	}
	return d
}

// sized answers a right Exp that has n Exps, of no great depth.
func sized(n int) impl.Exp {
	switch n {
	case 1:
		return num(1)
	case 2:
		return lam("x", num(1))
	}
	left := (n - 1) / 2
	return op("*", sized(left), sized(n-1-left))
}

func TestHowManyExps(t *testing.T) {
	for _, n := range []int{1, 2, 3, 100, 198, 199, 200, 201, 202, 250, 1000} {
		what := strconv.Itoa(n) + " Exps"
		if got := impl.Size(sized(n)); got != n {
			t.Fatalf("Size of %s = %d", what, got)
		}
		wantExp(t, what, sized(n), n <= 200)
		wantDecs(t, what, decs(dec("a", sized(n))), n <= 200)
		wantProg(t, what, impl.Prog{Decs: decs(dec("a", sized(n)))}, n <= 200)
		for _, d := range downs {
			e := d.wrap(sized(n))
			wantExp(t, what+" below "+d.what, e, impl.Size(e) <= 200)
		}
	}
	for _, d := range downs {
		more := impl.Size(d.wrap(num(1))) - 1
		wantExp(t, "200 Exps by "+d.what, d.wrap(sized(200-more)), true)
		wantExp(t, "201 Exps by "+d.what, d.wrap(sized(201-more)), false)
	}
	// The limit is of all Decs together, wherever they stand.
	for _, n := range []int{200, 201} {
		what := strconv.Itoa(n) + " Exps of all Decs"
		for _, l := range [][]impl.Dec{
			decs(dec("a", sized(100)), dec("b", sized(n-100))),
			decs(dec("a", sized(1)), dec("b", sized(n-2)), dec("c", sized(1))),
			decs(with(dec("a", sized(100)), dec("b", sized(n-100)))),
			decs(with(dec("a", sized(50)), with(dec("b", sized(50)), dec("c", sized(n-150)))), dec("c", sized(50))),
		} {
			wantDecs(t, what, l, n <= 200)
			wantProg(t, what, impl.Prog{Decs: l}, n <= 200)
			wantProg(t, what+" and Datas", impl.Prog{Datas: []impl.Data{data("T", con("A"))}, Decs: l}, n <= 200)
		}
		l := numbered(12)
		l[11].E = sized(n - 11)
		wantProg(t, what+" of a Prog", impl.Prog{Decs: l}, n <= 200)
		wantExp(t, what+" of a let", let(num(1), dec("a", sized(100)), dec("b", sized(n-102))), n <= 200)
		wantExp(t, what+" of Alts", caseOf(num(1), alt("A", sized(100)), alt("B", sized(n-102))), n <= 200)
	}
	// What is refused counts for no other call.
	wantExp(t, "201", sized(201), false)
	wantExp(t, "200 behind it", sized(200), true)
	wantDecs(t, "200 behind it", decs(dec("a", sized(200))), true)
}

func TestProgOkOfDatas(t *testing.T) {
	list := data("List", con("Nil"), con("Cons", tyInt(), tyData("List")))
	wantProg(t, "none", progOf(), true)
	wantProg(t, "empty", impl.Prog{Datas: []impl.Data{}, Decs: numbered(1)}, true)
	wantProg(t, "one", progOf(list), true)
	wantProg(t, "a Con like its Data", progOf(data("T", con("T"))), true)
	wantProg(t, "a Con like another Data", progOf(data("T", con("U")), data("U", con("T"))), true)
	wantProg(t, "no Decs", impl.Prog{Datas: []impl.Data{list}}, false)
	wantProg(t, "nothing", impl.Prog{}, false)
	wantProg(t, "a Data with nothing in it", progOf(impl.Data{}), false)
	wantProg(t, "a Con with nothing in it", progOf(data("T", impl.Con{})), false)
	for n := range 9 {
		datas, cons, args := []impl.Data{}, []impl.Con{}, []impl.Ty{}
		for i := range n {
			s := strconv.Itoa(i)
			datas = append(datas, data("T"+s, con("C"+s)))
			cons = append(cons, con("C"+s))
			args = append(args, tyInt())
		}
		what := strconv.Itoa(n)
		wantProg(t, what+" Datas", progOf(datas...), n <= 5)
		wantProg(t, what+" Cons", progOf(data("T", cons...)), 1 <= n && n <= 5)
		wantProg(t, what+" Cons of the second", progOf(data("U", con("Z")), data("T", cons...)), 1 <= n && n <= 5)
		wantProg(t, what+" Args", progOf(data("T", con("C", args...))), n <= 4)
		wantProg(t, what+" Args of the second", progOf(data("T", con("A"), con("C", args...))), n <= 4)
	}
}

func TestProgOkOfGreatNames(t *testing.T) {
	check := func(s string, own bool) {
		t.Helper()
		wantProg(t, "Data "+s, progOf(data(s, con("Z"))), own)
		wantProg(t, "the second Data "+s, progOf(data("Y", con("Y")), data(s, con("Z"))), own)
		wantProg(t, "Con "+s, progOf(data("Y", con(s))), own)
		wantProg(t, "the second Con "+s, progOf(data("Y", con("Z"), con(s, tyInt()))), own)
		wantProg(t, "Con of the second Data "+s, progOf(data("Y", con("Y")), data("X", con(s))), own)
	}
	for _, s := range []string{"A", "T", "List", "Ints", "In", "Booly", "TRUE", "Fals", "EIGHTLET", "X1234567"} {
		check(s, true)
	}
	for _, s := range append([]string{"Int", "Bool", "True", "False", "", "_", "a", "int", "true", "0", "A b", "A_", "É", "NINESIGNS", "A\n", "+"}, allWords...) {
		check(s, false)
	}
	for i, l := range [][]impl.Data{
		{data("T", con("A")), data("T", con("B"))},
		{data("T", con("A")), data("U", con("B")), data("T", con("C"))},
		{data("T", con("A"), con("A"))},
		{data("T", con("A"), con("B"), con("A", tyInt()))},
		{data("T", con("A")), data("U", con("A"))},
		{data("T", con("A"), con("B")), data("U", con("C")), data("V", con("D"), con("B"))},
	} {
		wantProg(t, "alike "+strconv.Itoa(i), progOf(l...), false)
	}
}

// arrows answers a Ty of n names, grouping from the right: of 2n-1 parts, n deep.
func arrows(n int) impl.Ty {
	t := tyInt()
	for range n - 1 {
		t = tyFun(tyInt(), t)
	}
	return t
}

// leftArrows groups from the left.
func leftArrows(n int) impl.Ty {
	t := tyInt()
	for range n - 1 {
		t = tyFun(t, tyInt())
	}
	return t
}

func wantArg(t *testing.T, what string, ty impl.Ty, want bool) {
	t.Helper()
	wantProg(t, what, progOf(data("T", con("A", ty))), want)
	wantProg(t, what+" behind others", progOf(data("U", con("U")), data("T", con("Z"), con("A", tyInt(), tyInt(), tyInt(), ty))), want)
}

func TestProgOkOfTypes(t *testing.T) {
	for _, ty := range []impl.Ty{
		{K: impl.TInt}, {K: impl.TBool}, tyData("T"), tyData("Other"), tyData("True"), tyData("False"), {K: impl.TInt, L: []impl.Ty{}},
		tyFun(tyInt(), impl.Ty{K: impl.TBool}), tyFun(tyFun(tyInt(), tyInt()), tyFun(tyData("T"), tyInt())),
	} {
		wantArg(t, "right", ty, true)
		wantArg(t, "right within", tyFun(tyInt(), ty), true)
	}
	// A right Ty has an odd number of parts: of 9 it is within the limit of 10, of 11 it is not.
	for n := 1; n <= 40; n++ {
		what := strconv.Itoa(2*n-1) + " parts"
		wantArg(t, what, arrows(n), n <= 5)
		wantArg(t, what+" from the left", leftArrows(n), n <= 5)
	}
	four, five := arrows(2), tyFun(tyFun(tyInt(), tyInt()), tyInt())
	wantArg(t, "9 parts, 4 deep", tyFun(tyFun(four, tyInt()), tyFun(tyInt(), tyInt())), true)
	wantArg(t, "11 parts, 4 deep", tyFun(five, five), false)
	// The limit is of each Ty alone.
	wantProg(t, "four of 9 parts", progOf(data("T", con("A", arrows(5), arrows(5), arrows(5), arrows(5)), con("B", arrows(5)))), true)
	wantProg(t, "four, one of 11 parts", progOf(data("T", con("A", arrows(5), arrows(6), arrows(5), arrows(5)))), false)
	wantArg(t, "all numbers nought", impl.Ty{}, false)
}

func TestProgOkOfWrongTypes(t *testing.T) {
	i := tyInt()
	for _, ty := range []impl.Ty{
		{}, {K: -1}, {K: 6}, {K: 7, S: "T"}, {K: math.MaxInt}, {K: math.MinInt},
		{K: impl.TVar}, {K: impl.TVar, N: 1}, {K: impl.TVar, S: "T"},
		{K: impl.TInt, S: "Int"}, {K: impl.TInt, N: 1}, {K: impl.TInt, N: -1}, {K: impl.TInt, L: []impl.Ty{i}}, {K: impl.TInt, L: []impl.Ty{i, i}},
		{K: impl.TBool, S: "T"}, {K: impl.TBool, N: 1}, {K: impl.TBool, L: []impl.Ty{i}},
		{K: impl.TData}, tyData("t"), tyData("Int"), tyData("Bool"), tyData("NINESIGNS"), tyData("_"), tyData("let"), tyData("É"),
		{K: impl.TData, S: "T", N: 1}, {K: impl.TData, S: "T", L: []impl.Ty{i}}, {K: impl.TData, S: "T", L: []impl.Ty{i, i}},
		{K: impl.TFun}, {K: impl.TFun, L: []impl.Ty{i}}, {K: impl.TFun, L: []impl.Ty{i, i, i}}, {K: impl.TFun, S: "T", L: []impl.Ty{i, i}}, {K: impl.TFun, N: 1, L: []impl.Ty{i, i}}, {K: impl.TFun, N: -1, L: []impl.Ty{i, i}},
	} {
		wantArg(t, "wrong", ty, false)
		wantArg(t, "wrong at the left", tyFun(ty, i), false)
		wantArg(t, "wrong at the right", tyFun(i, ty), false)
		wantArg(t, "wrong further in", tyFun(i, tyFun(tyFun(i, ty), i)), false)
	}
}

func TestSize(t *testing.T) {
	one := num(1)
	for _, c := range []struct {
		what string
		e    impl.Exp
		want int
	}{
		{"a number", one, 1}, {"nothing", impl.Exp{}, 1}, {"a call", app(one, one), 3}, {"a lambda", lam("x", one), 2},
		{"a let", let(one, dec("a", one)), 3}, {"a let of two", let(one, dec("a", app(one, one)), dec("b", one)), 6},
		{"a Where", let(one, with(dec("a", one), dec("b", one), dec("c", app(one, one)))), 7},
		{"a Where's Where", let(one, with(dec("a", one), with(dec("b", one), dec("c", one)))), 5},
		{"a case", caseOf(one, alt("A", one), alt("B", app(one, one)), alt("", one, "_")), 7},
		{"an if", ifs(one, app(one, one), one), 6}, {"an operator", op("+", one, op("*", one, one)), 5},
		// Whatever it is of, all of it is counted.
		{"no kind", impl.Exp{K: 99, L: []impl.Exp{one, one}}, 3},
		{"a name with parts", impl.Exp{K: impl.EVar, S: "A", N: -5, L: []impl.Exp{one}, Decs: decs(with(dec("", one), dec("", one))), Alts: []impl.Alt{alt("", one), {}}}, 6},
		{"more parts", impl.Exp{K: impl.EIf, L: slices.Repeat([]impl.Exp{one}, 1000)}, 1001},
		{"more Decs", impl.Exp{Decs: make([]impl.Dec, 1000)}, 1001},
		{"more Alts", impl.Exp{Alts: make([]impl.Alt, 1000)}, 1001},
	} {
		if got := impl.Size(c.e); got != c.want {
			t.Errorf("Size of %s = %d; want %d", c.what, got, c.want)
		}
	}
	if got := impl.Size(impl.Exp{L: []impl.Exp{one, one, one}[:1]}); got != 2 {
		t.Errorf("Size counted behind the length: %d", got)
	}
}

// wholeProg answers a right program with each kind of part in it, anew at each call.
func wholeProg() impl.Prog {
	return impl.Prog{
		Datas: []impl.Data{
			data("T", con("A"), con("B", tyInt(), impl.Ty{K: impl.TBool}, tyFun(tyData("T"), tyFun(tyInt(), tyData("U"))))),
			data("U", con("C", tyData("T"), tyData("U"))),
		},
		Decs: []impl.Dec{
			with(dec("f", let(app(vr("a"), vr("b")), dec("a", lam("x", vr("x")), "y"), dec("b", num(5))), "p", "q", "_"),
				dec("g", num(1), "r", "s"), with(dec("h", op("+", vr("p"), vr("q"))), dec("i", great("A")))),
			dec("k", caseOf(vr("x"), alt("B", num(1), "u", "v", "_"), alt("A", num(2)), alt("", app(vr("f"), num(3)), "w")), "x"),
			dec("main", ifs(op("==", num(1), num(2)), great("True"), op("<", num(3), num(4)))),
		},
	}
}

// wholeExp has each kind of part of an Exp in it.
func wholeExp() impl.Exp {
	return let(caseOf(num(1), alt("A", num(2), "x")), wholeProg().Decs...)
}

// changes answers what can be done to a value, each to be done to a fresh one: every number, text and list in it is changed on the spot.
func changes(v reflect.Value) []func() {
	var out []func()
	switch v.Kind() {
	case reflect.Int:
		for _, n := range []int64{1, -1, 4} {
			out = append(out, func() { v.SetInt(v.Int() + n) })
		}
	case reflect.String:
		for _, s := range []string{"", "z", v.String() + "z", strings.ToUpper(v.String()), strings.ToLower(v.String())} {
			out = append(out, func() { v.SetString(s) })
		}
	case reflect.Struct:
		for i := range v.NumField() {
			out = append(out, changes(v.Field(i))...)
		}
	case reflect.Slice:
		out = append(out, changesOfList(v)...)
		for i := range v.Len() {
			out = append(out, changes(v.Index(i))...)
		}
	}
	return out
}

// changesOfList: one more at either end, one less at each place, two of another order, one told twice, none at all.
func changesOfList(v reflect.Value) []func() {
	n := v.Len()
	fresh := func(places ...int) reflect.Value {
		l := reflect.MakeSlice(v.Type(), 0, len(places))
		for _, i := range places {
			if i < 0 {
				l = reflect.Append(l, reflect.Zero(v.Type().Elem()))
			} else {
				l = reflect.Append(l, v.Index(i))
			}
		}
		return l
	}
	all := []int{}
	for i := range n {
		all = append(all, i)
	}
	lists := [][]int{append(slices.Clone(all), -1), append([]int{-1}, all...), {}}
	for i := range n {
		lists = append(lists, slices.Delete(slices.Clone(all), i, i+1), slices.Insert(slices.Clone(all), i, i))
		if i > 0 {
			swapped := slices.Clone(all)
			swapped[i-1], swapped[i] = i, i-1
			lists = append(lists, swapped)
		}
	}
	var out []func()
	for _, l := range lists {
		out = append(out, func() { v.Set(fresh(l...)) })
	}
	return out
}

// told answers a value as a text, nil and empty lists alike.
func told(v any) string {
	var b strings.Builder
	tellTo(&b, reflect.ValueOf(v))
	return b.String()
}

func tellTo(b *strings.Builder, v reflect.Value) {
	switch v.Kind() {
	case reflect.Int:
		b.WriteString(strconv.FormatInt(v.Int(), 10))
	case reflect.String:
		b.WriteString(strconv.Quote(v.String()))
	case reflect.Struct:
		for i := range v.NumField() {
			b.WriteString(",")
			tellTo(b, v.Field(i))
		}
	case reflect.Slice:
		b.WriteString("[")
		for i := range v.Len() {
			b.WriteString(";")
			tellTo(b, v.Index(i))
		}
		b.WriteString("]")
	}
}

// checkChanges: each change of a whole makes it another one, unless nothing is changed by it; a copy is the same.
func checkChanges[T any](t *testing.T, whole func() T, same func(a, b T) bool, least int) {
	t.Helper()
	kept, first := whole(), whole()
	if !same(kept, kept) || !same(kept, first) {
		t.Error("not the same as its copy")
	}
	apart := 0
	for i := range changes(reflect.ValueOf(&first).Elem()) {
		changed := whole()
		changes(reflect.ValueOf(&changed).Elem())[i]()
		want := told(changed) == told(kept)
		if same(kept, changed) != want || same(changed, kept) != want {
			t.Errorf("change %d: the same as %+v: %v", i, changed, !want)
		}
		if !same(changed, changed) {
			t.Errorf("change %d: %+v is not the same as itself", i, changed)
		}
		if !want {
			apart++
		}
	}
	if apart < least {
		t.Errorf("only %d changes", apart)
	}
}

// P3: programs that are alike in all but one part are not the same, and a copy is.
func TestProgramsAreTheSameJustIfAllOfThemIs(t *testing.T) {
	wantProg(t, "the whole", wholeProg(), true)
	checkChanges(t, wholeProg, impl.SameProg, 500)
	wantExp(t, "the whole", wholeExp(), true)
	checkChanges(t, wholeExp, impl.SameExp, 500)
}

func TestSameOfNilAndEmpty(t *testing.T) {
	bare := impl.Exp{K: 1}
	full := impl.Exp{K: 1, L: []impl.Exp{}, Decs: []impl.Dec{}, Alts: []impl.Alt{}}
	if !impl.SameExp(bare, full) || !impl.SameExp(full, bare) || !impl.SameExp(impl.Exp{}, impl.Exp{}) {
		t.Error("empty lists of an Exp")
	}
	a := impl.Exp{Alts: []impl.Alt{{}}, Decs: []impl.Dec{{}}}
	b := impl.Exp{Alts: []impl.Alt{{Vars: []string{}}}, Decs: []impl.Dec{{Pars: []string{}, Where: []impl.Dec{}}}}
	if !impl.SameExp(a, b) || !impl.SameExp(b, a) {
		t.Error("empty lists of an Alt and a Dec")
	}
	p := impl.Prog{Datas: []impl.Data{{}, {Cons: []impl.Con{{}, {Args: []impl.Ty{{}}}}}}}
	q := impl.Prog{Datas: []impl.Data{{Cons: []impl.Con{}}, {Cons: []impl.Con{{Args: []impl.Ty{}}, {Args: []impl.Ty{{L: []impl.Ty{}}}}}}}, Decs: []impl.Dec{}}
	if !impl.SameProg(p, q) || !impl.SameProg(q, p) || !impl.SameProg(impl.Prog{}, impl.Prog{Datas: []impl.Data{}, Decs: []impl.Dec{}}) {
		t.Error("empty lists of a Prog")
	}
	for _, e := range []impl.Exp{{L: []impl.Exp{{}}}, {Decs: []impl.Dec{{}}}, {Alts: []impl.Alt{{}}}, {K: 1}, {N: 1}, {S: "_"}} {
		if impl.SameExp(e, impl.Exp{}) || impl.SameExp(impl.Exp{}, e) {
			t.Errorf("%+v is the same as nothing", e)
		}
	}
	if impl.SameProg(impl.Prog{Datas: []impl.Data{{}}}, impl.Prog{}) || impl.SameProg(impl.Prog{}, impl.Prog{Decs: []impl.Dec{{}}}) {
		t.Error("a Prog is the same as nothing")
	}
}

// What is not right is held against each other all the same, whatever its kind.
func TestSameOfWhatIsNotRight(t *testing.T) {
	for _, k := range []int{0, impl.EVar, impl.ENum, impl.EApp, 10, -3, math.MinInt, math.MaxInt} {
		base := impl.Exp{K: k, S: "?", N: -4, L: []impl.Exp{{K: 77}}, Decs: []impl.Dec{{Name: "?"}}, Alts: []impl.Alt{{Great: "?"}}}
		for i, change := range []func(e *impl.Exp){
			func(e *impl.Exp) { e.S = "!" }, func(e *impl.Exp) { e.N = 4 }, func(e *impl.Exp) { e.L = nil }, func(e *impl.Exp) { e.Decs = nil }, func(e *impl.Exp) { e.Alts = nil },
			func(e *impl.Exp) { e.L = []impl.Exp{{K: 78}} }, func(e *impl.Exp) { e.Decs = []impl.Dec{{Name: "!"}} }, func(e *impl.Exp) { e.Alts = []impl.Alt{{Great: "!"}} },
			func(e *impl.Exp) { e.K ^= 1 },
		} {
			other := base
			change(&other)
			if impl.SameExp(base, other) || impl.SameExp(other, base) || !impl.SameExp(base, base) || !impl.SameExp(other, other) {
				t.Errorf("kind %d, change %d", k, i)
			}
		}
	}
	ty := impl.Prog{Datas: []impl.Data{{Cons: []impl.Con{{Args: []impl.Ty{{K: impl.TVar, S: "?", N: -1, L: []impl.Ty{{}, {N: 2}}}}}}}}}
	if !impl.SameProg(ty, ty) {
		t.Error("a Prog is not the same as itself")
	}
	// Parts that are told elsewhere do not make up for each other.
	if impl.SameExp(app(app(vr("a"), vr("b")), vr("c")), app(vr("a"), app(vr("b"), vr("c")))) {
		t.Error("calls that group otherwise")
	}
	if impl.SameExp(impl.Exp{L: []impl.Exp{num(1), num(2)}}, impl.Exp{L: []impl.Exp{num(1)}, Alts: []impl.Alt{{E: num(2)}}}) {
		t.Error("a part and an Alt")
	}
	if impl.SameExp(let(num(1), dec("ab", num(1), "c")), let(num(1), dec("a", num(1), "bc"))) || impl.SameExp(let(num(1), dec("f", num(1), "a", "b")), let(num(1), dec("f", num(1), "ab"))) {
		t.Error("names that run on alike")
	}
	if impl.SameExp(let(num(1), with(dec("a", num(1)), dec("b", num(2)))), let(num(1), dec("a", num(1)), dec("b", num(2)))) {
		t.Error("a Where and a Dec behind")
	}
}

// someExp answers an Exp of few parts, right or not, of few signs, so that two of them are often alike.
func someExp(r *rand.Rand, deep int) impl.Exp {
	e := impl.Exp{K: r.Intn(4), S: []string{"", "a", "A"}[r.Intn(3)], N: r.Intn(2)}
	if deep == 0 {
		return e
	}
	for range r.Intn(3) {
		e.L = append(e.L, someExp(r, deep-1))
	}
	if r.Intn(3) == 0 {
		e.Decs = someDecs(r, deep-1)
	}
	if r.Intn(3) == 0 {
		e.Alts = append(e.Alts, alt([]string{"", "A"}[r.Intn(2)], someExp(r, deep-1), []string{"_", "a"}[:r.Intn(3)]...))
	}
	return e
}

func someDecs(r *rand.Rand, deep int) []impl.Dec {
	l := []impl.Dec{}
	for range r.Intn(3) {
		d := dec([]string{"a", "b"}[r.Intn(2)], someExp(r, max(0, deep-1)), []string{"_", "a"}[:r.Intn(3)]...)
		if deep > 0 {
			d.Where = someDecs(r, deep-1)
		}
		l = append(l, d)
	}
	return l
}

func sizeByHand(e impl.Exp) int {
	n := 1 + sizeOfDecs(e.Decs)
	for _, x := range e.L {
		n += sizeByHand(x)
	}
	for _, a := range e.Alts {
		n += sizeByHand(a.E)
	}
	return n
}

func sizeOfDecs(l []impl.Dec) int {
	n := 0
	for _, d := range l {
		n += sizeByHand(d.E) + sizeOfDecs(d.Where)
	}
	return n
}

func TestSameAndSizeOfManyExps(t *testing.T) {
	r := rand.New(rand.NewSource(3))
	var l []impl.Exp
	for i := range 400 {
		e := someExp(r, i%4)
		if got, want := impl.Size(e), sizeByHand(e); got != want {
			t.Fatalf("Size(%+v) = %d; want %d", e, got, want)
		}
		l = append(l, e)
	}
	alike := 0
	for _, a := range l {
		for _, b := range l {
			want := told(a) == told(b)
			if impl.SameExp(a, b) != want {
				t.Fatalf("SameExp(%+v, %+v) = %v", a, b, !want)
			}
			if want {
				alike++
			}
		}
	}
	if alike < len(l)+50 {
		t.Errorf("only %d are alike", alike)
	}
}

// askAll calls each function with e, wherever it may stand: it must answer, and none of it is right.
func askAll(t *testing.T, what string, e impl.Exp) {
	t.Helper()
	d := dec("a", e)
	if impl.ExpOk(e) || impl.ExpOk(let(num(1), d)) || impl.ExpOk(caseOf(num(1), alt("", e, "_"))) {
		t.Errorf("%s: ExpOk", what)
	}
	if impl.DecsOk(decs(d)) || impl.DecsOk(decs(with(dec("b", num(1)), d))) || impl.ProgOk(impl.Prog{Decs: decs(d)}) {
		t.Errorf("%s: DecsOk or ProgOk", what)
	}
	if !impl.SameExp(e, e) || impl.SameExp(e, num(1)) || impl.SameExp(num(1), e) || impl.SameExp(e, lam("x", e)) {
		t.Errorf("%s: SameExp", what)
	}
	if p := (impl.Prog{Decs: decs(d)}); !impl.SameProg(p, p) || impl.SameProg(p, progOf()) {
		t.Errorf("%s: SameProg", what)
	}
}

func TestExpsFarTooDeep(t *testing.T) {
	for _, d := range downs {
		deep := 5000
		if d.what == "a lambda's body" {
			deep = 1000000
		}
		a, b, c := num(1), num(1), num(2)
		for range deep {
			a, b, c = d.wrap(a), d.wrap(b), d.wrap(c)
		}
		askAll(t, d.what, a)
		each := impl.Size(d.wrap(num(1))) - 1
		if got := impl.Size(a); got != deep*each+1 {
			t.Errorf("%s: Size = %d", d.what, got)
		}
		if !impl.SameExp(a, b) || impl.SameExp(a, c) || impl.SameExp(a, d.wrap(a)) {
			t.Errorf("%s: SameExp of copies", d.what)
		}
	}
}

func TestDecsFarTooDeep(t *testing.T) {
	const deep = 200000
	a, b := wheres(deep), wheres(deep)
	if impl.DecsOk(decs(a)) || impl.ProgOk(impl.Prog{Decs: decs(a)}) || impl.ExpOk(let(num(1), a)) {
		t.Error("Wheres far too deep are right")
	}
	if !impl.SameProg(impl.Prog{Decs: decs(a)}, impl.Prog{Decs: decs(b)}) || impl.SameExp(let(num(1), a), let(num(1), wheres(deep-1))) {
		t.Error("Wheres far too deep: the same")
	}
	if got := impl.Size(let(num(1), a)); got != deep+2 {
		t.Errorf("Size = %d", got)
	}
}

func TestTypesFarTooDeepOrTooLarge(t *testing.T) {
	const deep = 200000
	p, q, r := progOf(data("T", con("A", arrows(deep)))), progOf(data("T", con("A", arrows(deep)))), progOf(data("T", con("A", arrows(deep-1))))
	s := progOf(data("T", con("A", leftArrows(deep))))
	wantNo := func(what string, p impl.Prog) {
		t.Helper()
		if impl.ProgOk(p) {
			t.Errorf("%s is right", what)
		}
	}
	wantNo("from the right", p)
	wantNo("from the left", s)
	if !impl.SameProg(p, q) || impl.SameProg(p, r) || impl.SameProg(p, s) {
		t.Error("far too deep: the same")
	}
	a, b := tyInt(), tyInt()
	for range 100 {
		a, b = tyFun(a, a), tyFun(b, b)
	}
	wantNo("too large", progOf(data("T", con("A", a))))
	if !impl.SameProg(progOf(data("T", con("A", a))), progOf(data("T", con("A", b)))) || impl.SameProg(progOf(data("T", con("A", a))), progOf(data("T", con("A", tyFun(b, b))))) {
		t.Error("too large: the same")
	}
	wide := impl.Ty{K: impl.TFun, L: make([]impl.Ty, deep)}
	wantNo("too wide", progOf(data("T", con("A", wide))))
	wantNo("too many Args", progOf(data("T", con("A", make([]impl.Ty, deep)...))))
	wantNo("too many Cons", progOf(data("T", make([]impl.Con, deep)...)))
	wantNo("too many Datas", progOf(make([]impl.Data, deep)...))
}

func TestExpsFarTooWide(t *testing.T) {
	const many = 100000
	for _, c := range []struct {
		what string
		e    impl.Exp
		size int
	}{
		{"parts", impl.Exp{K: impl.EApp, L: make([]impl.Exp, many)}, many + 1},
		{"right parts", impl.Exp{K: impl.EApp, L: slices.Repeat([]impl.Exp{num(1)}, many)}, many + 1},
		{"Decs", let(num(1), make([]impl.Dec, many)...), many + 2},
		{"right Decs", let(num(1), numbered(many)...), many + 2},
		{"Alts", caseOf(num(1), make([]impl.Alt, many)...), many + 2},
		{"Pars", let(num(1), dec("f", num(1), make([]string, many)...)), 3},
		{"Vars", caseOf(num(1), alt("A", num(1), make([]string, many)...)), 3},
		{"a long text", vr(strings.Repeat("a", many)), 1},
		{"balanced", sized(many), many},
	} {
		askAll(t, c.what, c.e)
		if got := impl.Size(c.e); got != c.size {
			t.Errorf("%s: Size = %d", c.what, got)
		}
	}
}

// doubled answers an Exp whose parts share one list, again and again: of 2 to the times Exps below.
func doubled(times int, twice func(e impl.Exp) impl.Exp) impl.Exp {
	e := num(1)
	for range times {
		e = twice(e)
	}
	return e
}

func TestExpsThatShareTheirParts(t *testing.T) {
	for _, c := range []struct {
		what  string
		twice func(e impl.Exp) impl.Exp
		extra int
	}{
		{"a call", func(e impl.Exp) impl.Exp { return app(e, e) }, 1},
		{"Alts", func(e impl.Exp) impl.Exp { return caseOf(num(1), alt("A", e), alt("B", e)) }, 2},
		{"a let", func(e impl.Exp) impl.Exp { return let(e, dec("a", e)) }, 1},
		{"a Where", func(e impl.Exp) impl.Exp { return let(num(1), with(dec("a", e), dec("b", e))) }, 2},
	} {
		for _, times := range []int{0, 1, 2, 10, 13} {
			if e := doubled(times, c.twice); impl.Size(e) != sizeByHand(e) {
				t.Errorf("%s, %d times: Size = %d; want %d", c.what, times, impl.Size(e), sizeByHand(e))
			}
		}
		a, b := doubled(40, c.twice), doubled(40, c.twice)
		askAll(t, c.what, a)
		if got, want := impl.Size(a), 1<<40+(1<<40-1)*c.extra; got != want {
			t.Errorf("%s: Size = %d; want %d", c.what, got, want)
		}
		if !impl.SameExp(a, b) || impl.SameExp(a, c.twice(b)) {
			t.Errorf("%s: SameExp", c.what)
		}
		// More than an int can tell.
		if got := impl.Size(doubled(200, c.twice)); got != math.MaxInt {
			t.Errorf("%s, 200 times: Size = %d", c.what, got)
		}
	}
	d := dec("a", num(1))
	for range 100 {
		d = with(dec("a", num(1)), d, d)
	}
	if impl.DecsOk(decs(d)) || !impl.SameProg(impl.Prog{Decs: decs(d)}, impl.Prog{Decs: decs(with(d, d.Where...))}) {
		t.Error("Wheres that share their Decs")
	}
	if got := impl.Size(let(num(1), d)); got != math.MaxInt {
		t.Errorf("Wheres that share their Decs: Size = %d", got)
	}
}

// A list that stands in itself makes an Exp without end: each function still answers.
func TestExpsThatGoRound(t *testing.T) {
	ring := func(n int) impl.Exp {
		l := make([]impl.Exp, n)
		for i := range l {
			l[i] = lam("x", num(1))
			l[i].L = l[(i+1)%n : (i+1)%n+1]
		}
		return l[0]
	}
	decRing := make([]impl.Dec, 1)
	decRing[0] = with(dec("a", num(1)), decRing...)
	decRing[0].Where = decRing
	altRing := make([]impl.Alt, 1)
	altRing[0] = alt("", impl.Exp{K: impl.ECase, L: []impl.Exp{num(1)}, Alts: altRing}, "_")
	for i, e := range []impl.Exp{ring(1), ring(7), app(num(1), ring(3)), let(num(1), decRing...), altRing[0].E} {
		if impl.ExpOk(e) || impl.DecsOk(decs(dec("a", e))) || impl.ProgOk(impl.Prog{Decs: decs(dec("a", e))}) {
			t.Errorf("ring %d is right", i)
		}
		if !impl.SameExp(e, e) || impl.SameExp(e, num(1)) {
			t.Errorf("ring %d: SameExp", i)
		}
		if got := impl.Size(e); got != math.MaxInt {
			t.Errorf("ring %d: Size = %d", i, got)
		}
	}
	if !impl.SameExp(ring(2), ring(3)) || impl.SameExp(ring(2), chain(5)) {
		t.Error("rings of two lengths")
	}
	tyRing := make([]impl.Ty, 2)
	tyRing[0], tyRing[1] = impl.Ty{K: impl.TFun, L: tyRing}, tyInt()
	if p := progOf(data("T", con("A", tyRing...))); impl.ProgOk(p) || !impl.SameProg(p, p) || impl.SameProg(p, progOf(data("T", con("A", tyInt(), tyInt())))) {
		t.Error("a Ty that goes round")
	}
}

// roomy answers a copy of v each of whose lists has room behind it, filled with what must not be read or written.
func roomy(v reflect.Value) reflect.Value {
	out := reflect.New(v.Type()).Elem()
	switch v.Kind() {
	case reflect.Struct:
		for i := range v.NumField() {
			out.Field(i).Set(roomy(v.Field(i)))
		}
	case reflect.Slice:
		l := reflect.MakeSlice(v.Type(), 0, v.Len()+2)
		for i := range v.Len() {
			l = reflect.Append(l, roomy(v.Index(i)))
		}
		behind := l.Slice(0, l.Cap())
		for i := v.Len(); i < behind.Len(); i++ {
			fillBehind(behind.Index(i))
		}
		out.Set(l)
	default:
		out.Set(v)
	}
	return out
}

func fillBehind(v reflect.Value) {
	switch v.Kind() {
	case reflect.Int:
		v.SetInt(-77)
	case reflect.String:
		v.SetString("behind")
	case reflect.Struct:
		for i := range v.NumField() {
			fillBehind(v.Field(i))
		}
	}
}

// toldWithRoom answers a value as a text, with what lies behind the lists.
func toldWithRoom(v reflect.Value) string {
	switch v.Kind() {
	case reflect.Struct:
		s := "{"
		for i := range v.NumField() {
			s += toldWithRoom(v.Field(i)) + ","
		}
		return s + "}"
	case reflect.Slice:
		s := "[" + strconv.Itoa(v.Len()) + ":"
		for i := range v.Cap() {
			s += toldWithRoom(v.Slice(0, v.Cap()).Index(i)) + ";"
		}
		return s + "]"
	}
	return told(v.Interface())
}

func TestNothingIsWrittenIntoPrograms(t *testing.T) {
	wrong := wholeProg()
	wrong.Decs[2].Where = decs(dec("A", impl.Exp{K: 44}))
	for i, base := range []impl.Prog{wholeProg(), wrong, {}} {
		p := roomy(reflect.ValueOf(base)).Interface().(impl.Prog)
		e := roomy(reflect.ValueOf(let(num(1), base.Decs...))).Interface().(impl.Exp)
		keptProg, keptExp := toldWithRoom(reflect.ValueOf(p)), toldWithRoom(reflect.ValueOf(e))
		for range 2 {
			if impl.ProgOk(p) != (i == 0) || impl.DecsOk(p.Decs) != (i == 0) || impl.ExpOk(e) != (i == 0) {
				t.Errorf("program %d: what lies behind is read, or an answer was kept", i)
			}
			if !impl.SameProg(p, base) || !impl.SameProg(base, p) || !impl.SameExp(e, let(num(1), base.Decs...)) {
				t.Errorf("program %d: not the same as its copy with room behind", i)
			}
			if got, want := impl.Size(e), sizeByHand(e); got != want {
				t.Errorf("program %d: Size = %d; want %d", i, got, want)
			}
		}
		if toldWithRoom(reflect.ValueOf(p)) != keptProg || toldWithRoom(reflect.ValueOf(e)) != keptExp {
			t.Errorf("program %d was written into", i)
		}
	}
}
