package tests

import (
	"math"
	"math/rand"
	"reflect"
	"slices"
	"strconv"
	"strings"
	"testing"

	"loop.example/g00471/impl"
)

// wantBare holds Bare of e against want, and all that the chapter says of the two.
func wantBare(t *testing.T, what string, e, want impl.Exp) {
	t.Helper()
	got := impl.Bare(e)
	if told(got) != told(want) {
		t.Errorf("%s: Bare = %+v; want %+v", what, got, want)
	}
	if told(impl.Bare(got)) != told(got) || !impl.IsBare(got) {
		t.Errorf("%s: what is bare is another one when bare again, or IsBare is false of it", what)
	}
	if is := impl.IsBare(e); is != (told(e) == told(want)) {
		t.Errorf("%s: IsBare = %v", what, is)
	}
}

// wantBareDec holds BareDec of d against want, and what becomes of d in a let and in a Where.
func wantBareDec(t *testing.T, what string, d impl.Dec, want impl.Exp) {
	t.Helper()
	if got := impl.BareDec(d); told(got) != told(want) {
		t.Errorf("%s: BareDec = %+v; want %+v", what, got, want)
	}
	wantBare(t, what+" in a let", let(num(1), dec("a", num(2)), d), let(num(1), dec("a", num(2)), dec(d.Name, want)))
	wantBare(t, what+" in a Where", let(num(1), with(dec("a", num(2), "p"), d, dec("b", num(3)))), let(num(1), dec("a", lam("p", let(num(2), dec(d.Name, want), dec("b", num(3)))))))
}

// A baredText is a text, and what it is bare.
type baredText struct{ text, want string }

func wantBareText(t *testing.T, l ...baredText) {
	t.Helper()
	for _, c := range l {
		wantBare(t, c.text, expOf(t, c.text), expOf(t, c.want))
	}
}

func wantBareDecText(t *testing.T, l ...baredText) {
	t.Helper()
	for _, c := range l {
		wantBareDec(t, c.text, decOf(t, c.text), expOf(t, c.want))
	}
}

func TestBareOfEachKind(t *testing.T) {
	for _, e := range eachKind() {
		wantBare(t, byHand(e), e, e)
		wantBareDec(t, byHand(e), dec("f", e), e)
		wantBareDec(t, byHand(e), dec("f", e, "x"), lam("x", e))
		wantBareDec(t, byHand(e), with(dec("f", e), dec("w", num(1))), let(e, dec("w", num(1))))
	}
	for _, s := range []string{"x", "X", "7", "f x", "f x y", `\x -> x`, `\_ -> \x -> x`, "let x = 1 in x", "let { x = y ; y = x } in x y", "case x of { A -> y ; B a _ -> a ; z -> z }",
		"if a then b else c", "a + b * c - d", "a == b", "a < b", "let x = let y = 1 in y in (let z = 2 in z)"} {
		wantBareText(t, baredText{s, s})
	}
}

func TestBareDecOfEachDec(t *testing.T) {
	wantBareDecText(t,
		// Without Pars and Where.
		baredText{"f = 1", "1"}, baredText{"f = f", "f"}, baredText{`f = \x -> x`, `\x -> x`}, baredText{"f = let x = 1 in x", "let x = 1 in x"},
		// With Pars alone, from the first on.
		baredText{"f x = x", `\x -> x`}, baredText{"f x y = y x", `\x -> \y -> y x`}, baredText{"f y x = y x", `\y -> \x -> y x`}, baredText{"f a b c d = 1", `\a -> \b -> \c -> \d -> 1`},
		baredText{"f f = f", `\f -> f`}, baredText{`f x = \y -> x`, `\x -> \y -> x`}, baredText{`f x = \x -> x`, `\x -> \x -> x`},
		// Without names.
		baredText{"f _ = 1", `\_ -> 1`}, baredText{"f _ _ = 1", `\_ -> \_ -> 1`}, baredText{"f _ x _ = x", `\_ -> \x -> \_ -> x`},
		// With a Where alone.
		baredText{"f = x where { x = 1 }", "let { x = 1 } in x"}, baredText{"f = 1 where { x = y ; y = x }", "let { x = y ; y = x } in 1"}, baredText{"f = f where { f = f }", "let { f = f } in f"},
		baredText{"f = let x = 1 in y where { y = 2 }", "let { y = 2 } in let x = 1 in y"},
		// With both: what the Where says is within the functions of the Pars.
		baredText{"f x = y where { y = x }", `\x -> let { y = x } in y`}, baredText{"f x _ z = y where { y = x ; w = z }", `\x -> \_ -> \z -> let { y = x ; w = z } in y`},
		// A name of a Par that the Where defines anew.
		baredText{"f x = x where { x = 1 }", `\x -> let { x = 1 } in x`}, baredText{"f x y = x y where { y = x ; x = y }", `\x -> \y -> let { y = x ; x = y } in x y`},
	)
}

func TestBareWheres(t *testing.T) {
	wantBareDecText(t,
		// Each Dec of a Where is bare itself.
		baredText{"f = g where { g x = x }", `let { g = \x -> x } in g`}, baredText{"f x = g where { g y = x ; h _ = y }", `\x -> let { g = \y -> x ; h = \_ -> y } in g`},
		baredText{"f x = 1 where { g x = x }", `\x -> let { g = \x -> x } in 1`},
		baredText{"f = g where { g = h where { h = 1 } }", "let { g = let { h = 1 } in h } in g"},
		baredText{"f x = g where { g y = h where { h z = i where { i = x y z } } }", `\x -> let { g = \y -> let { h = \z -> let { i = x y z } in i } in h } in g`},
		baredText{"f = 1 where { g = 2 where { h a = 3 } ; i = 4 where { j b = 5 } }", `let { g = let { h = \a -> 3 } in 2 ; i = let { j = \b -> 5 } in 4 } in 1`},
	)
	one := num(1)
	for _, d := range []impl.Dec{{Name: "f", E: one, Where: []impl.Dec{}}, {Name: "f", Pars: []string{}, E: one}, {Name: "f", Pars: []string{"x"}[:0], E: one, Where: decs(dec("w", one))[:0]}} {
		wantBareDec(t, "an empty Where", d, one)
		if !impl.IsBare(let(one, d)) {
			t.Error("an empty Where, or no Pars: IsBare is false")
		}
	}
	wantBareDec(t, "an empty Where behind Pars", impl.Dec{Name: "f", Pars: []string{"x"}, E: one, Where: []impl.Dec{}}, lam("x", one))
}

func TestBareWithin(t *testing.T) {
	wantBareText(t,
		baredText{"let f x = x in f", `let f = \x -> x in f`}, baredText{"let f = a where { a = 1 } in f", "let f = let { a = 1 } in a in f"}, baredText{"let { f x = 1 ; g = 2 ; h _ = 3 } in f", `let { f = \x -> 1 ; g = 2 ; h = \_ -> 3 } in f`},
		baredText{"a (let f x = x in f)", `a (let f = \x -> x in f)`}, baredText{"(let f x = x in f) a", `(let f = \x -> x in f) a`}, baredText{`\a -> let f x = a in f`, `\a -> let f = \x -> a in f`},
		baredText{"case a of { A b -> let f x = b in f ; c -> c }", `case a of { A b -> let f = \x -> b in f ; c -> c }`}, baredText{"case let f x = 1 in f of { A -> 2 }", `case let f = \x -> 1 in f of { A -> 2 }`},
		baredText{"let f x = 1 in (let g y = 2 in g)", `let f = \x -> 1 in (let g = \y -> 2 in g)`}, baredText{"let f x = let g y = 2 in g in f", `let f = \x -> let g = \y -> 2 in g in f`},
		baredText{"let f = 1 where { a = let g y = 2 in g } in f", `let f = let { a = let g = \y -> 2 in g } in 1 in f`},
	)
	d, bare := with(dec("f", vr("x"), "x", "_"), dec("w", num(1), "y")), dec("f", lam("x", lam("_", let(vr("x"), dec("w", lam("y", num(1)))))))
	for _, x := range downs {
		for _, outer := range downs {
			e, want := outer.wrap(x.wrap(let(vr("f"), d))), outer.wrap(x.wrap(let(vr("f"), bare)))
			if told(impl.Bare(e)) != told(bareByHand(want)) || impl.IsBare(e) || !impl.IsBare(impl.Bare(e)) {
				t.Errorf("%s in %s: Bare = %+v", x.what, outer.what, impl.Bare(e))
			}
			wantBare(t, x.what, e, bareByHand(e))
		}
	}
}

// bareByHand goes from the front on, with a call in each call.
func bareByHand(e impl.Exp) impl.Exp {
	out := impl.Exp{K: e.K, S: e.S, N: e.N, Decs: bareDecsByHand(e.Decs)}
	for _, x := range e.L {
		out.L = append(out.L, bareByHand(x))
	}
	for _, a := range e.Alts {
		out.Alts = append(out.Alts, alt(a.Great, bareByHand(a.E), slices.Clone(a.Vars)...))
	}
	return out
}

func bareDecsByHand(l []impl.Dec) []impl.Dec {
	out := []impl.Dec{}
	for _, d := range l {
		out = append(out, dec(d.Name, bareDecByHand(d)))
	}
	return out
}

func bareDecByHand(d impl.Dec) impl.Exp {
	e := bareByHand(d.E)
	if len(d.Where) > 0 {
		e = let(e, bareDecsByHand(d.Where)...)
	}
	for _, s := range slices.Backward(d.Pars) {
		e = lam(s, e)
	}
	return e
}

// hasParsOrWhere tells of each Dec, wherever it stands, and how many Pars and Wheres there are.
func hasParsOrWhere(e impl.Exp) (pars, wheres int) {
	count := func(p, w int) { pars, wheres = pars+p, wheres+w }
	var countDecs func(l []impl.Dec)
	countDecs = func(l []impl.Dec) {
		for _, d := range l {
			count(len(d.Pars), min(len(d.Where), 1))
			count(hasParsOrWhere(d.E))
			countDecs(d.Where)
		}
	}
	for _, x := range e.L {
		count(hasParsOrWhere(x))
	}
	for _, a := range e.Alts {
		count(hasParsOrWhere(a.E))
	}
	countDecs(e.Decs)
	return pars, wheres
}

// P11: what is bare has no Pars and no Where anywhere, and bare again it is the same.
func TestWhatIsBareAgainIsTheSame(t *testing.T) {
	seen := map[bool]int{}
	for i, e := range manyExps(8000) {
		pars, wheres := hasParsOrWhere(e)
		isBare := pars+wheres == 0
		seen[isBare]++
		if impl.IsBare(e) != isBare {
			t.Fatalf("IsBare of %+v = %v", e, !isBare)
		}
		got := impl.Bare(e)
		if p, w := hasParsOrWhere(got); p+w > 0 || !impl.IsBare(got) {
			t.Fatalf("Bare of %+v has %d Pars and %d Wheres", e, p, w)
		}
		if !impl.SameExp(impl.Bare(got), got) || impl.SameExp(got, e) != isBare {
			t.Fatalf("Bare of %+v = %+v, bare again %+v", e, got, impl.Bare(got))
		}
		if told(got) != told(bareByHand(e)) {
			t.Fatalf("Bare of %+v = %+v; want %+v", e, got, bareByHand(e))
		}
		if impl.Size(got) != impl.Size(e)+pars+wheres {
			t.Fatalf("Bare of %+v has %d Exps; want %d and %d", e, impl.Size(got), impl.Size(e), pars+wheres)
		}
		d := with(dec("f", e, []string{"x", "_", "y", "x"}[:i%5]...), e.Decs...)
		if x := impl.BareDec(d); told(x) != told(bareDecByHand(d)) || !impl.IsBare(x) || !impl.SameExp(impl.Bare(x), x) || !impl.SameExp(impl.BareDec(dec("f", x)), x) {
			t.Fatalf("BareDec of %+v = %+v", d, x)
		}
	}
	if seen[true] < 2000 || seen[false] < 2000 {
		t.Error("too few to tell:", seen)
	}
}

// The names are free and bound as they were.
func TestNamesOfWhatIsBare(t *testing.T) {
	for _, e := range manyExps(4000) {
		got := impl.Bare(e)
		wantNames(t, "FreeOf", impl.FreeOf(got), impl.FreeOf(e)...)
		wantNames(t, "BoundOf", impl.BoundOf(got), impl.BoundOf(e)...)
		for _, d := range e.Decs {
			wantNames(t, "FreeOfDec", impl.FreeOf(impl.BareDec(d)), impl.FreeOfDec(d)...)
		}
	}
}

// Of what has types the bare Decs are of the same ones, as long as they are not too deep.
func TestTypesOfWhatIsBare(t *testing.T) {
	g := progMaker{rand.New(rand.NewSource(11)), 1000}
	held := 0
	for range 1500 {
		p := g.prog(t)
		bare := impl.Prog{Datas: p.Datas, Decs: impl.Bare(let(num(1), p.Decs...)).Decs}
		want, ok := impl.TypesOf(p)
		if !ok || !impl.ProgOk(bare) || told(bare) == told(p) {
			continue
		}
		held++
		if got, ok := impl.TypesOf(bare); !ok || told(got) != told(want) {
			t.Fatalf("%s: bare %s, %v; want %s", impl.ProgText(p), bindsText(got), ok, bindsText(want))
		}
	}
	if held < 300 {
		t.Error("too few to tell:", held)
	}
}

// overfull answers an Exp of a kind with each part that there is, whatever the kind has.
func overfull(k int) impl.Exp {
	d := with(dec("f", vr("x"), "x", "x"), dec("g", num(2), "_"), with(dec("g", num(3)), dec("h", num(4))))
	x := let(num(5), d)
	return impl.Exp{K: k, S: "s", N: -7, L: []impl.Exp{x, num(6), x, {}}, Decs: decs(d, dec("", x), d), Alts: []impl.Alt{alt("A", x, "v", "v", "_"), {}, alt("", num(7)), alt("b", x, "", "B")}}
}

func TestBareOfWhatIsNotRight(t *testing.T) {
	for _, k := range []int{math.MinInt, -1, 0, 1, 2, 3, 4, 5, 6, 7, 8, 9, 10, math.MaxInt} {
		e := overfull(k)
		wantBare(t, "kind "+strconv.Itoa(k), e, bareByHand(e))
		wantBareDec(t, "kind "+strconv.Itoa(k), dec("", e, "", "A", "in"), lam("", lam("A", lam("in", bareByHand(e)))))
		// With parts missing, one after the other.
		for _, less := range []func(e *impl.Exp){
			func(e *impl.Exp) { e.L = nil }, func(e *impl.Exp) { e.L = e.L[:1] }, func(e *impl.Exp) { e.Decs = nil }, func(e *impl.Exp) { e.Decs = e.Decs[1:2] }, func(e *impl.Exp) { e.Alts = nil },
			func(e *impl.Exp) { e.S, e.N = "", 0 }, func(e *impl.Exp) { e.L, e.Decs = nil, nil }, func(e *impl.Exp) { e.Decs, e.Alts = nil, nil }, func(e *impl.Exp) { e.L, e.Alts = nil, nil },
		} {
			e := overfull(k)
			less(&e)
			wantBare(t, "less of kind "+strconv.Itoa(k), e, bareByHand(e))
		}
		bare := impl.Exp{K: k, S: "s", N: 9, L: []impl.Exp{num(1), {K: k}}, Decs: decs(dec("f", num(1)), impl.Dec{}), Alts: []impl.Alt{alt("A", num(2), "x")}}
		wantBare(t, "bare, of kind "+strconv.Itoa(k), bare, bare)
		// A Dec that is not bare is found in each part, one after the other.
		for i := range 5 {
			e := impl.Exp{K: k, L: []impl.Exp{num(1), num(1)}, Decs: decs(dec("a", num(1)), dec("b", num(1))), Alts: []impl.Alt{alt("A", num(1))}}
			places := []*impl.Exp{&e.L[0], &e.L[1], &e.Decs[0].E, &e.Decs[1].E, &e.Alts[0].E}
			*places[i] = impl.Exp{K: k, Decs: decs(dec("c", num(1), "x"))}
			wantBare(t, "in a part of kind "+strconv.Itoa(k), e, bareByHand(e))
		}
	}
	wantBare(t, "the zero Exp", impl.Exp{}, impl.Exp{})
	wantBareDec(t, "the zero Dec", impl.Dec{}, impl.Exp{})
	if !impl.IsBare(impl.Exp{}) || !impl.IsBare(let(num(1), impl.Dec{})) {
		t.Error("IsBare of the zero values is false")
	}
	// What the limits of chapter 3 refuse: more of each than there may be.
	wantBareDec(t, "nine Pars", dec("f", num(1), strings.Fields("a b c d e f g h i")...), expOf(t, `\a -> \b -> \c -> \d -> \e -> \f -> \g -> \h -> \i -> 1`))
	wantBareDec(t, "Pars that are alike", dec("f", vr("x"), "x", "x", "_", "x"), expOf(t, `\x -> \x -> \_ -> \x -> x`))
	wantBareDec(t, "Decs of one Name", with(dec("f", num(1)), dec("a", num(2), "x"), dec("a", num(3), "y")), let(num(1), dec("a", lam("x", num(2))), dec("a", lam("y", num(3)))))
	wantBareDec(t, "thirteen Decs", with(dec("f", num(1)), numbered(13)...), let(num(1), numbered(13)...))
}

func TestBareFarTooDeep(t *testing.T) {
	for _, d := range downs {
		deep := 20000
		if d.what == "a lambda's body" || d.what == "a let's Dec" {
			deep = 200000
		}
		e, want := let(num(1), dec("f", num(2), "x")), let(num(1), dec("f", lam("x", num(2))))
		for range deep {
			e = d.wrap(e)
			want = bareOfWrap(d.wrap(want))
		}
		got := impl.Bare(e)
		if !impl.SameExp(got, want) || impl.IsBare(e) || !impl.IsBare(got) || !impl.SameExp(impl.Bare(got), want) {
			t.Errorf("%s, far too deep: Bare is another one", d.what)
		}
	}
	const deep = 200000
	d, want := dec("a", num(1), "x"), lam("x", num(1))
	for range deep {
		d, want = with(dec("a", num(1), "y"), d), lam("y", let(num(1), dec("a", want)))
	}
	if got := impl.BareDec(d); !impl.SameExp(got, want) || !impl.IsBare(got) || impl.IsBare(let(num(1), d)) {
		t.Error("Wheres far too deep: BareDec is another one")
	}
}

// bareOfWrap is of an Exp of which only what is at the top is not bare: the Decs of a let, and of their Wheres.
func bareOfWrap(e impl.Exp) impl.Exp {
	var bare func(d impl.Dec) impl.Dec
	bare = func(d impl.Dec) impl.Dec {
		if len(d.Where) == 0 {
			return d
		}
		l := []impl.Dec{}
		for _, w := range d.Where {
			l = append(l, bare(w))
		}
		return dec(d.Name, let(d.E, l...))
	}
	for i, d := range e.Decs {
		e.Decs[i] = bare(d)
	}
	return e
}

func TestBareFarTooWide(t *testing.T) {
	const many = 100000
	names, alts := []string{}, []impl.Alt{}
	wide, bare := []impl.Dec{}, []impl.Dec{}
	one := num(1)
	for i := range many {
		s := "n" + strconv.Itoa(i)
		names, alts = append(names, s), append(alts, alt("A", num(i), s))
		d := dec(s, num(i))
		if i%2 == 0 {
			d.Pars = []string{"x", s}
		}
		if i%3 == 0 {
			d.Where = numbered(2)
		}
		wide, bare = append(wide, d), append(bare, dec(s, bareDecByHand(d)))
	}
	lams := one
	for _, s := range slices.Backward(names) {
		lams = lam(s, lams)
	}
	for _, c := range []struct {
		what    string
		e, want impl.Exp
	}{
		{"parts", impl.Exp{L: slices.Repeat([]impl.Exp{let(one, wide[0])}, many)}, impl.Exp{L: slices.Repeat([]impl.Exp{let(one, bare[0])}, many)}},
		{"Decs", let(one, wide...), let(one, bare...)},
		{"Alts", caseOf(let(one, wide[0]), alts...), caseOf(let(one, bare[0]), alts...)},
		{"Pars", let(one, dec("f", one, names...)), let(one, dec("f", lams))},
		{"a Where", let(one, with(dec("f", one), wide...)), let(one, dec("f", let(one, bare...)))},
		{"Vars", caseOf(let(one, wide[0]), alt("A", one, names...)), caseOf(let(one, bare[0]), alt("A", one, names...))},
		{"a long text", lam(strings.Repeat("a", many), let(one, wide[0])), lam(strings.Repeat("a", many), let(one, bare[0]))},
	} {
		if got := impl.Bare(c.e); !impl.SameExp(got, c.want) || !impl.IsBare(got) || impl.IsBare(c.e) {
			t.Errorf("%s, far too many: Bare is another one", c.what)
		}
	}
	// One long text in the place of many names.
	long := strings.Repeat("a", 1000000)
	e := impl.Exp{L: slices.Repeat([]impl.Exp{vr(long), let(vr(long), dec(long, num(1), long))}, 10000)}
	if got := impl.Bare(e); !impl.IsBare(got) || len(got.L) != 20000 || got.L[0].S != long || got.L[19999].Decs[0].E.S != long {
		t.Error("a text that is far too long: Bare is another one")
	}
}

// writtenName is no name of a Dec, of an Alt or of a Var here.
const writtenName = "written"

// A marker writes into all that it comes to, and counts the places that it came to once more.
type marker struct{ again, places int }

func (m *marker) note(was bool) bool {
	m.places++
	if was {
		m.again++
	}
	return !was
}

func (m *marker) exps(l []impl.Exp) {
	for i := range l {
		e := &l[i]
		if m.note(e.N == written) {
			e.N = written
			m.exp(e)
		}
	}
	behind := l[len(l):cap(l)]
	for i := range behind {
		behind[i].N = written
	}
}

func (m *marker) exp(e *impl.Exp) {
	m.exps(e.L)
	m.decs(e.Decs)
	for i := range e.Alts {
		a := &e.Alts[i]
		if m.note(a.Great == writtenName) {
			a.Great = writtenName
			m.exp(&a.E)
			m.names(a.Vars)
		}
	}
}

func (m *marker) decs(l []impl.Dec) {
	for i := range l {
		d := &l[i]
		if m.note(d.Name == writtenName) {
			d.Name = writtenName
			m.names(d.Pars)
			m.exp(&d.E)
			m.decs(d.Where)
		}
	}
}

func (m *marker) names(l []string) {
	for i := range l {
		m.note(l[i] == writtenName)
		l[i] = writtenName
	}
}

// wantBareOwn holds Bare of e against want, and that no two of its lists share memory, nor one with e.
func wantBareOwn(t *testing.T, what string, e, want impl.Exp) int {
	t.Helper()
	got := impl.Bare(e)
	if !impl.SameExp(got, want) || !impl.IsBare(got) {
		t.Errorf("%s: Bare is another one", what)
	}
	var m marker
	m.exp(&got)
	if m.again > 0 {
		t.Errorf("%s: of %d places %d are shared with others", what, m.places, m.again)
	}
	if !impl.SameExp(impl.Bare(e), want) {
		t.Errorf("%s: an argument was written into", what)
	}
	return m.places
}

// A twice is a way to put one Exp twice into another one, and what that is bare.
type twice struct {
	what     string
	of, bare func(e impl.Exp) impl.Exp
}

func twices() []twice {
	shared := []string{"x", "_"}
	return []twice{
		{"a call", func(e impl.Exp) impl.Exp { return app(e, e) }, func(e impl.Exp) impl.Exp { return app(e, e) }},
		{"Alts", func(e impl.Exp) impl.Exp {
			return caseOf(num(1), impl.Alt{Great: "A", Vars: shared, E: e}, impl.Alt{Great: "B", Vars: shared, E: e})
		}, func(e impl.Exp) impl.Exp {
			return caseOf(num(1), alt("A", e, "x", "_"), alt("B", e, "x", "_"))
		}},
		{"a let", func(e impl.Exp) impl.Exp { return let(e, dec("a", e)) }, func(e impl.Exp) impl.Exp { return let(e, dec("a", e)) }},
		{"Pars", func(e impl.Exp) impl.Exp {
			return let(num(1), impl.Dec{Name: "a", Pars: shared, E: e}, impl.Dec{Name: "b", Pars: shared, E: e})
		}, func(e impl.Exp) impl.Exp {
			return let(num(1), dec("a", lam("x", lam("_", e))), dec("b", lam("x", lam("_", e))))
		}},
		{"a Where", func(e impl.Exp) impl.Exp { return let(num(1), with(dec("a", e, "x"), dec("b", e, "y"))) }, func(e impl.Exp) impl.Exp {
			return let(num(1), dec("a", lam("x", let(e, dec("b", lam("y", e))))))
		}},
		{"one Where", func(e impl.Exp) impl.Exp {
			w := decs(dec("b", e, "y"))
			return let(num(1), with(dec("a", num(1), "x"), w...), with(dec("c", num(2)), w...))
		}, func(e impl.Exp) impl.Exp {
			w := let(num(1), dec("b", lam("y", e)))
			return let(num(1), dec("a", lam("x", w)), dec("c", let(num(2), w.Decs...)))
		}},
		{"Decs of a let and of a Where", func(e impl.Exp) impl.Exp {
			w := decs(dec("b", e, "y"))
			return let(let(num(1), with(dec("a", num(1)), w...)), w...)
		}, func(e impl.Exp) impl.Exp {
			w := decs(dec("b", lam("y", e)))
			return let(let(num(1), dec("a", let(num(1), w...))), w...)
		}},
	}
}

func TestBareOfSharedLists(t *testing.T) {
	for _, c := range twices() {
		for _, times := range []int{1, 2, 3, 10, 14} {
			wantBareOwn(t, c.what, doubled(times, c.of), doubled(times, c.bare))
		}
	}
	// Of more than 1 << 20 Exps: lists twice again and again, a chain and a wide list at many places.
	call := twices()[0]
	if n := wantBareOwn(t, "a call, 20 times", doubled(20, call.of), doubled(20, call.bare)); n != 1<<21-2 {
		t.Error("a call, 20 times: places", n)
	}
	long, want := num(1), num(1)
	for range 10000 {
		long, want = let(long, dec("f", num(2), "x")), let(want, dec("f", lam("x", num(2))))
	}
	wantBareOwn(t, "a chain at 20 places", impl.Exp{L: slices.Repeat([]impl.Exp{long}, 20)}, impl.Exp{L: slices.Repeat([]impl.Exp{want}, 20)})
	wide := slices.Repeat([]impl.Exp{vr("x")}, 100000)
	l, wants := []impl.Dec{}, []impl.Dec{}
	for range 10 {
		l, wants = append(l, dec("f", impl.Exp{L: wide}, "x")), append(wants, dec("f", lam("x", impl.Exp{L: wide})))
	}
	wantBareOwn(t, "a wide list at 10 places", let(num(1), l...), let(num(1), wants...))
	// Lists that are pieces of one.
	wantBareOwn(t, "pieces", impl.Exp{L: []impl.Exp{{L: wide}, {L: wide[1:]}, {L: wide[:5]}, {L: wide[5:7]}, {L: wide}}, Decs: decs(dec("f", impl.Exp{L: wide[:3]}, "x"))},
		impl.Exp{L: []impl.Exp{{L: wide}, {L: wide[1:]}, {L: wide[:5]}, {L: wide[5:7]}, {L: wide}}, Decs: decs(dec("f", lam("x", impl.Exp{L: wide[:3]})))})
}

// wantBareShared is of what no memory holds all lists of: they may be shared with each other, but not with an argument.
func wantBareShared(t *testing.T, what string, e, want impl.Exp) {
	t.Helper()
	isBare := impl.SameExp(e, want)
	got := impl.Bare(e)
	if !impl.SameExp(got, want) || !impl.IsBare(got) || !impl.SameExp(impl.Bare(got), want) || impl.IsBare(e) != isBare {
		t.Errorf("%s: Bare is another one", what)
	}
	fun := impl.BareDec(dec("f", e, "x", "y"))
	if !impl.SameExp(fun, lam("x", lam("y", want))) {
		t.Errorf("%s: BareDec is another one", what)
	}
	var m marker
	m.exp(&got)
	m.exp(&fun)
	if !impl.SameExp(impl.Bare(e), want) || impl.SameExp(got, want) {
		t.Errorf("%s: an argument was written into", what)
	}
}

func TestBareOfWhatCannotBeHeld(t *testing.T) {
	for _, c := range twices() {
		for _, times := range []int{32, 64, 200} {
			wantBareShared(t, c.what+", "+strconv.Itoa(times)+" times", doubled(times, c.of), doubled(times, c.bare))
		}
	}
	d, want := dec("a", num(1)), num(1)
	for range 100 {
		d, want = with(dec("a", num(1), "x"), d, d), lam("x", let(num(1), dec("a", want), dec("a", want)))
	}
	wantBareShared(t, "Wheres that share their Decs", let(num(1), d), let(num(1), dec("a", want)))
	manyVars := slices.Repeat([]string{"v", "w"}, 500000)
	alts := caseOf(num(1), slices.Repeat([]impl.Alt{{Great: "A", Vars: manyVars}}, 100000)...)
	if got := impl.Bare(alts); len(got.Alts) != 100000 || !slices.Equal(got.Alts[0].Vars, manyVars) || !slices.Equal(got.Alts[99999].Vars, manyVars) || &got.Alts[0].Vars[0] == &manyVars[0] {
		t.Error("many Alts of many Vars: Bare is another one")
	}
	// Lists that begin at one place are not all the same.
	call, l, w := twices()[0], []impl.Exp{num(1), num(2), num(3)}, decs(dec("a", num(1), "x"), dec("b", num(2)))
	bareW, vars := decs(dec("a", lam("x", num(1))), dec("b", num(2))), []string{"x", "y", "z"}
	pieces := func(large impl.Exp, w []impl.Dec) impl.Exp {
		return impl.Exp{L: []impl.Exp{{L: l}, {L: l[:2]}, {L: l[:1]}, {L: l}, let(num(1), w...), let(num(1), w[:1]...), large},
			Alts: []impl.Alt{{Vars: vars[:1]}, {Vars: vars}, {Vars: vars[:2]}}}
	}
	wantBareShared(t, "lists that are pieces of one", pieces(doubled(64, call.of), w), pieces(doubled(64, call.bare), bareW))
}

// A list that stands in itself makes an Exp without end, and what it is bare has none either.
func TestBareOfWhatGoesRound(t *testing.T) {
	lams := make([]impl.Exp, 2)
	lams[0], lams[1] = lam("x", num(1)), num(2)
	lams[0].L = lams
	wantBareShared(t, "a bare one", lams[0], lams[0])

	l, bare := make([]impl.Exp, 2), make([]impl.Exp, 2)
	l[0], l[1] = impl.Exp{K: impl.EApp, L: l}, let(num(1), dec("f", impl.Exp{L: l}, "x"))
	bare[0], bare[1] = impl.Exp{K: impl.EApp, L: bare}, let(num(1), dec("f", lam("x", impl.Exp{L: bare})))
	wantBareShared(t, "calls", l[0], bare[0])

	ring, bareRing := make([]impl.Dec, 2), make([]impl.Dec, 2)
	ring[0], ring[1] = impl.Dec{Name: "a", Pars: []string{"p", "_"}, E: num(1), Where: ring}, dec("b", let(num(2), ring...))
	bareRing[0], bareRing[1] = dec("a", lam("p", lam("_", let(num(1), bareRing...)))), dec("b", let(num(2), bareRing...))
	wantBareShared(t, "a Where", let(num(3), ring...), let(num(3), bareRing...))
	if got := impl.BareDec(ring[0]); !impl.SameExp(got, bareRing[0].E) || !impl.IsBare(got) {
		t.Error("a Where: BareDec is another one")
	}

	alts, bareAlts := make([]impl.Alt, 2), make([]impl.Alt, 2)
	vars := []string{"v", "w"}
	for i, s := range []string{"A", ""} {
		alts[i] = impl.Alt{Great: s, Vars: vars, E: impl.Exp{K: impl.ECase, L: []impl.Exp{let(num(1), dec("f", num(2), "x"))}, Alts: alts}}
		bareAlts[i] = impl.Alt{Great: s, Vars: vars, E: impl.Exp{K: impl.ECase, L: []impl.Exp{let(num(1), dec("f", lam("x", num(2))))}, Alts: bareAlts}}
	}
	wantBareShared(t, "Alts", alts[0].E, bareAlts[0].E)
	if told(vars) != told([]string{"v", "w"}) {
		t.Error("Alts: the Vars were written into")
	}
}

// askBare answers what is said of a Prog's Decs, all together and each.
func askBare(p impl.Prog) []impl.Exp {
	l := []impl.Exp{impl.Bare(impl.Exp{K: impl.ELet, Decs: p.Decs})}
	for _, d := range p.Decs {
		l = append(l, impl.BareDec(d), impl.Bare(d.E))
	}
	return l
}

func TestBareIsNewMemory(t *testing.T) {
	r := rand.New(rand.NewSource(111))
	wrong := impl.Prog{Decs: decs(dec("f", anyExp(r, 4), "b", "a", "c"), with(dec("a", anyExp(r, 4)), dec("c", anyExp(r, 3), "z", "a")), dec("g", overfull(0), "x"))}
	for i, base := range []impl.Prog{wholeProg(), wrong, {Decs: decs(dec("f", wholeExp(), "x"))}, {}} {
		p := roomy(reflect.ValueOf(base)).Interface().(impl.Prog)
		ahead := toldWithRoom(reflect.ValueOf(p))
		want := told(askBare(base))
		bare := []bool{}
		for _, d := range base.Decs {
			bare = append(bare, impl.IsBare(d.E))
		}
		for range 3 {
			got := askBare(p)
			if told(got) != want {
				t.Errorf("program %d: %+v", i, got)
			}
			sharesNothing(t, "what is bare", reflect.ValueOf(got))
			for j := range got {
				var m marker
				m.exp(&got[j])
				clear(got[j].L[:cap(got[j].L)])
				clear(got[j].Decs[:cap(got[j].Decs)])
				clear(got[j].Alts[:cap(got[j].Alts)])
			}
			for j, d := range p.Decs {
				if impl.IsBare(d.E) != bare[j] {
					t.Errorf("program %d: IsBare of the body %d is another one", i, j)
				}
			}
		}
		if toldWithRoom(reflect.ValueOf(p)) != ahead {
			t.Errorf("program %d was written into", i)
		}
	}
}

// Each change of a whole is to be seen in what it is bare, unless nothing is changed by it.
func TestEachPartIsKept(t *testing.T) {
	first := wholeExp()
	n := len(changes(reflect.ValueOf(&first).Elem()))
	for i := range n {
		changed := wholeExp()
		changes(reflect.ValueOf(&changed).Elem())[i]()
		if got, want := impl.Bare(changed), bareByHand(changed); told(got) != told(want) {
			t.Errorf("change %d: Bare = %+v; want %+v", i, got, want)
		}
		pars, wheres := hasParsOrWhere(changed)
		if impl.IsBare(changed) != (pars+wheres == 0) {
			t.Errorf("change %d: IsBare is %v", i, pars+wheres > 0)
		}
	}
	if n < 500 {
		t.Error("only", n, "changes")
	}
}
