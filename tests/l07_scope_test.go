package tests

import (
	"math"
	"math/rand"
	"reflect"
	"slices"
	"strconv"
	"strings"
	"testing"

	"loop.example/g00471/impl"
)

// wantMaker asks for both of a great name: of none they are -1 and nothing.
func wantMaker(t *testing.T, p impl.Prog, great string, args int, data string) {
	t.Helper()
	if got := impl.ArityOf(p, great); got != args {
		t.Errorf("ArityOf %q = %d; want %d", great, got, args)
	}
	if got := impl.DataOf(p, great); got != data {
		t.Errorf("DataOf %q = %q; want %q", great, got, data)
	}
}

func wantNoMakers(t *testing.T, p impl.Prog, l ...string) {
	t.Helper()
	for _, s := range l {
		wantMaker(t, p, s, -1, "")
	}
}

func wantGiven(t *testing.T, p impl.Prog) {
	t.Helper()
	wantMaker(t, p, "True", 0, "Bool")
	wantMaker(t, p, "False", 0, "Bool")
}

func wantScope(t *testing.T, what string, p impl.Prog, want bool) {
	t.Helper()
	if impl.ScopeOk(p) != want {
		t.Errorf("%s: ScopeOk(%+v) = %v", what, p, !want)
	}
}

// wantScopes reads each text, which is right whether or not all is there that it asks for.
func wantScopes(t *testing.T, want bool, texts ...string) {
	t.Helper()
	for _, s := range texts {
		p, ok := impl.ParseProg(s)
		if !ok {
			t.Fatalf("%q is not read", s)
		}
		wantScope(t, s, p, want)
	}
}

// shapes has Cons of each number of Args.
func shapes() []impl.Data {
	i := tyInt()
	return []impl.Data{
		data("T", con("A"), con("B", i), con("C", i, tyBool())),
		data("U", con("D", i, i, i)),
		data("V", con("E", i, i, i, i), con("F"), con("T", tyData("T"))),
	}
}

// shaped has e as the body of its one Dec, and all of the shapes.
func shaped(e impl.Exp) impl.Prog {
	return impl.Prog{Datas: shapes(), Decs: decs(dec("top", e))}
}

func TestMakers(t *testing.T) {
	p := shaped(num(1))
	wantProg(t, "the shapes", p, true)
	for _, c := range []struct {
		great string
		args  int
		data  string
	}{
		{"A", 0, "T"}, {"B", 1, "T"}, {"C", 2, "T"}, {"D", 3, "U"}, {"E", 4, "V"}, {"F", 0, "V"}, {"T", 1, "V"},
	} {
		wantMaker(t, p, c.great, c.args, c.data)
	}
	wantGiven(t, p)
	// A Data alone makes nothing, nor does a type that is given; a name that only begins alike is another one.
	wantNoMakers(t, p, "U", "V", "Int", "Bool", "Z", "AA", "Aa", "A0", "Tr", "Truee", "Fals", "TRUE", "G")
	wantNoMakers(t, p, "", "_", "a", "t", "top", "true", "A ", " A", "A\n", "A\x00", "+", "\xff", strings.Repeat("A", 100000))
}

func TestMakersOfOtherTypes(t *testing.T) {
	// Of what types the Args are does not change how many there are: one that has parts is one.
	p := progOf(data("T", con("A", arrows(5)), con("B", tyFun(tyData("T"), tyBool()), leftArrows(4)), con("C", tyData("None"), tyData("T"), tyBool())))
	wantMaker(t, p, "A", 1, "T")
	wantMaker(t, p, "B", 2, "T")
	wantMaker(t, p, "C", 3, "T")
	p = progOf(data("T", con("U")), data("U", con("T", tyInt())))
	wantMaker(t, p, "U", 0, "T")
	wantMaker(t, p, "T", 1, "U")
}

func TestGivenMakersAreInEveryProg(t *testing.T) {
	for _, p := range []impl.Prog{{}, progOf(), wholeProg(), {Datas: shapes()}, {Datas: []impl.Data{{}}}, {Datas: []impl.Data{}, Decs: []impl.Dec{{}}}} {
		wantGiven(t, p)
		wantNoMakers(t, p, "Z", "Int", "Bool", "None")
	}
	wantNoMakers(t, impl.Prog{}, "A", "T", "", "_", "a")
	// What is told of them holds though a Prog that is not right tells others.
	for _, p := range []impl.Prog{
		progOf(data("T", con("True", tyInt()), con("False", tyInt(), tyInt()))),
		progOf(data("True", con("A")), data("False", con("B"))),
		progOf(data("Bool", con("False"), con("True", tyInt()))),
		progOf(data("T", con("True"), con("True", tyInt())), data("U", con("False"), con("False"))),
	} {
		wantProg(t, "a given name", p, false)
		wantGiven(t, p)
		wantScope(t, "a given name", p, false)
	}
}

func TestMakersOfWhatIsNotRight(t *testing.T) {
	i := tyInt()
	// Of two of one name the first in the order of the list counts.
	for _, c := range []struct {
		datas []impl.Data
		args  int
		data  string
	}{
		{[]impl.Data{data("T", con("A", i), con("A"))}, 1, "T"},
		{[]impl.Data{data("T", con("A"), con("B"), con("A", i, i))}, 0, "T"},
		{[]impl.Data{data("T", con("B"), con("A", i, i)), data("U", con("A", i))}, 2, "T"},
		{[]impl.Data{data("U", con("A", i)), data("T", con("B"), con("A", i, i))}, 1, "U"},
		{[]impl.Data{data("T", con("B")), data("T", con("A", i)), data("U", con("A"))}, 1, "T"},
		{[]impl.Data{data("U", con("A")), data("U", con("A", i)), data("T", con("A", i, i))}, 0, "U"},
	} {
		p := progOf(c.datas...)
		wantProg(t, "alike", p, false)
		wantMaker(t, p, "A", c.args, c.data)
		wantScope(t, "alike", p, false)
	}
	// More than there may be, and what is wrong within.
	many := progOf(append(numberedDatas(9), data("T", con("A0"), con("A1"), con("A2"), con("A3"), con("A4"), con("A5", slices.Repeat([]impl.Ty{i}, 7)...)))...)
	wantMaker(t, many, "A5", 7, "T")
	wantMaker(t, many, "C8", 0, "T8")
	wrong := impl.Prog{Datas: []impl.Data{
		{}, {Name: "T"}, data("", con("A", impl.Ty{})), data("int", con("B", impl.Ty{K: impl.TVar, N: -1}, impl.Ty{K: 99}), con("C", impl.Ty{K: impl.TFun})), data("Bool", con("Int"), con("Bool", i)),
	}}
	wantMaker(t, wrong, "A", 1, "")
	wantMaker(t, wrong, "B", 2, "int")
	wantMaker(t, wrong, "C", 1, "int")
	wantMaker(t, wrong, "Int", 0, "Bool")
	wantMaker(t, wrong, "Bool", 1, "Bool")
	wantNoMakers(t, wrong, "", "T", "int")
	// What stands in the place of a great name is taken as it stands there.
	for _, s := range []string{"", "_", "a", "let", "NINESIGNS", "É", "\xff", "A b"} {
		p := progOf(data("T", con("A"), con(s, i, i, i)))
		wantMaker(t, p, s, 3, "T")
		wantMaker(t, p, "A", 0, "T")
		wantScope(t, s, p, false)
	}
	// What lies behind the length is not there.
	p := impl.Prog{Datas: shapes()[:2]}
	wantMaker(t, p, "D", 3, "U")
	wantNoMakers(t, p, "E", "F", "T")
	p.Datas[0].Cons, p.Datas[1].Cons[0].Args = p.Datas[0].Cons[:1], p.Datas[1].Cons[0].Args[:2]
	wantNoMakers(t, p, "B", "C")
	wantMaker(t, p, "D", 2, "U")
}

func TestMakersOfManyDatas(t *testing.T) {
	const many = 20000
	p := impl.Prog{}
	for i := range many {
		s := strconv.Itoa(i)
		p.Datas = append(p.Datas, data("T"+s, con("C"+s, make([]impl.Ty, i%7)...), con("C"+strconv.Itoa(i+1))))
	}
	wantMaker(t, p, "C0", 0, "T0")
	wantMaker(t, p, "C5", 0, "T4")
	wantMaker(t, p, "C"+strconv.Itoa(many), 0, "T"+strconv.Itoa(many-1))
	wantNoMakers(t, p, "C"+strconv.Itoa(many+1))
	p = progOf(data("T", con("A", make([]impl.Ty, 1000000)...)))
	wantMaker(t, p, "A", 1000000, "T")
	wantScope(t, "too many Args", p, false)
}

func TestScopeOfNames(t *testing.T) {
	wantScopes(t, true,
		"main = 0", "f = f", "f = g\ng = f", "f = g\ng = h\nh = f", "g = 1\nf = g", "f x = f x", "f x = x", `f = \x -> x`, `f = \_ -> f`,
		"f x = y where { y = x }", "f x = y where { y = y }", "f = g where { g = f }", "f x = 1 where { y z = f x y z }", "f = g where { g = h where { h = f g h } }",
		"f = 1 where { w = g }\ng = 1", "f = 1 where { w = 1 where { v = main } }\nmain = f",
		"f = let x = x in x", "f = let { g a = h a ; h = g } in f g h", "f = case f of { x -> x }", "data T = A Int\nf = case f of { A x -> x ; y -> f y }",
		"f = if f then g else h\ng = f + g\nh = g * h - f", "f = f == f", "f f = f",
		"f x = g where { g = x }\ng = f", "x = 1\nf = x where { y x = x }",
	)
	wantScopes(t, false,
		"main = x", "f = g", "f = 1\ng = h", "f = g\ng = h", "f x = y", "f x = f y", `f = \x -> y`, `f = (\x -> x) x`, "f _ = x",
		"f x = y where { z = x }", "f x = 1 where { y = z }", "f = g h where { g = h where { h = 1 } }", "f = 1 where { g = 1 where { h = i } }",
		"f = 1 where { g = 1 }\ng = h", "f = 1 where { w = 1 }\ng = w", "f x = 1\ng = x",
		"f = let x = y in x", "f = (let x = 1 in x) x", "f = let f = 1 in g", "f = case x of { x -> x }", "f = case 1 of { x -> y }", "data T = A Int\nf = case 1 of { A x -> 1 ; _ -> x }",
		"f = if x then 1 else 2", "f = if 1 then x else 2", "f = if 1 then 2 else x", "f = x + 1", "f = 1 < x", "f = x 1", "f = 1 x",
		"mai = main", "f = F1 f1", "f = ff", "ff = f",
	)
}

// Each Dec binds all others, wherever it stands among them.
func TestScopeOfDecsThatAskForEachOther(t *testing.T) {
	for n := 1; n <= 12; n++ {
		for from := range n {
			for to := range n + 1 {
				l := numbered(n)
				l[from].E = vr("d" + strconv.Itoa(to))
				wantScope(t, strconv.Itoa(from)+" asks for "+strconv.Itoa(to), impl.Prog{Decs: l}, to < n)
				l[from] = with(dec(l[from].Name, num(1), "x"), dec("y", lam("z", vr("d"+strconv.Itoa(to)))))
				wantScope(t, "in a Where", impl.Prog{Decs: l}, to < n)
			}
		}
	}
}

// P7, of each part of each kind: what is asked for there must be there.
func TestScopeInEachPart(t *testing.T) {
	i := tyInt()
	for _, d := range downs {
		for _, outer := range downs {
			in := func(e impl.Exp) impl.Exp { return outer.wrap(d.wrap(e)) }
			what := d.what + " in " + outer.what
			wantScope(t, what, shaped(in(num(1))), true)
			// A name.
			p := shaped(in(vr("zz")))
			wantScope(t, what+": no Dec", p, false)
			p.Decs = append(p.Decs, dec("zz", num(1)))
			wantScope(t, what+": a Dec behind", p, true)
			wantScope(t, what+": a Dec ahead", impl.Prog{Datas: p.Datas, Decs: decs(p.Decs[1], p.Decs[0])}, true)
			p.Decs = decs(dec("top", in(vr("zz")), "_", "zz"))
			wantScope(t, what+": a Par", p, true)
			p.Decs = decs(with(dec("top", in(vr("zz"))), dec("zz", num(1))))
			wantScope(t, what+": a Where", p, true)
			p.Decs = decs(with(dec("top", num(1)), dec("yy", in(vr("zz")))))
			wantScope(t, what+": in a Where", p, false)
			p.Decs = decs(with(dec("top", num(1), "zz"), dec("yy", in(vr("zz")))))
			wantScope(t, what+": in a Where, a Par", p, true)
			p.Decs = decs(with(dec("top", num(1)), dec("zz", in(vr("zz")))))
			wantScope(t, what+": in a Where, itself", p, true)
			p.Decs = decs(with(dec("top", num(1)), dec("zz", num(1))), dec("next", in(vr("zz"))))
			wantScope(t, what+": a Where of another", p, false)
			// A great name, and one of an Alt.
			for _, e := range []impl.Exp{in(great("Zz")), in(caseOf(num(1), alt("Zz", num(1), "_", "x"))), in(caseOf(num(1), alt("", num(1), "_"), alt("A", num(1)), alt("Zz", num(1), "y", "x")))} {
				for _, l := range [][]impl.Dec{
					decs(dec("top", e)), decs(dec("top", num(1)), dec("next", e)), decs(with(dec("top", num(1)), dec("w", e))),
					decs(with(dec("top", num(1)), dec("w", num(1)), with(dec("v", num(1)), dec("u", e)))),
				} {
					wantProg(t, what, impl.Prog{Decs: l}, true)
					wantScope(t, what+": no Con", impl.Prog{Datas: shapes(), Decs: l}, false)
					wantScope(t, what+": a Data alone", impl.Prog{Datas: append(shapes(), data("Zz", con("Zy", i, i))), Decs: l}, false)
					wantScope(t, what+": a Con", impl.Prog{Datas: append(shapes(), data("Zy", con("Zx"), con("Zz", i, i))), Decs: l}, true)
				}
			}
			wantScope(t, what+": given", shaped(in(great("True"))), true)
			wantScope(t, what+": given", shaped(in(great("False"))), true)
			wantScope(t, what+": a type", shaped(in(great("Int"))), false)
			wantScope(t, what+": a type", shaped(in(great("Bool"))), false)
		}
	}
}

func TestScopeOfGreatNames(t *testing.T) {
	wantScopes(t, true,
		"main = True", "main = False", "data T = A\nmain = A", "main = A\ndata T = A", "data T = A | B\nmain = B", "data T = A\ndata U = B\nmain = A B", "data T = T\nmain = T",
		"data T = U\ndata U = T\nmain = T U", "main = case True of { True -> False ; False -> True }", "data T = A\nmain = case 1 of { A -> 1 ; True -> 2 ; False -> 3 }",
	)
	wantScopes(t, false,
		"main = A", "main = T", "data T = A\nmain = T", "data T = A\nmain = B", "data T = A\nmain = Aa", "data Aa = Bb\nmain = Aa", "main = Int", "main = Bool", "main = TRUE", "main = True1", "main = true",
		"main = case 1 of { A -> 1 }", "main = case 1 of { T -> 1 }", "data T = A\nmain = case 1 of { T -> 1 }", "data T = A\nmain = case 1 of { A -> 1 ; B -> 2 }", "data T = A\nmain = case 1 of { B -> 1 ; A -> 2 }",
		"main = case 1 of { Int -> 1 }", "main = case 1 of { Bool -> 1 }", "main = case 1 of { Bool x -> x }", "data T = A\nmain = case 1 of { _ -> B }",
	)
}

// Great names of another many parts: an Alt has as many Vars as the Con has Args, no fewer and no more.
func TestScopeOfHowManyVars(t *testing.T) {
	for _, c := range []struct {
		great string
		args  int
	}{
		{"True", 0}, {"False", 0}, {"A", 0}, {"B", 1}, {"C", 2}, {"D", 3}, {"E", 4}, {"F", 0}, {"T", 1},
	} {
		for n := range 5 {
			for _, vars := range [][]string{[]string{"a", "b", "c", "d"}[:n], []string{"_", "_", "_", "_"}[:n], []string{"_", "b", "_", "d"}[:n]} {
				what := c.great + " of " + strconv.Itoa(n)
				want := n == c.args
				one := alt(c.great, num(1), vars...)
				wantScope(t, what, shaped(caseOf(num(1), one)), want)
				wantScope(t, what+" behind others", shaped(caseOf(num(1), alt("A", num(1)), alt("", num(1), "x"), alt("D", num(1), "a", "_", "c"), one)), want)
				wantScope(t, what+" ahead of others", shaped(caseOf(num(1), one, alt(c.great, num(1), slices.Repeat([]string{"_"}, c.args)...))), want)
				wantScope(t, what+" further in", shaped(caseOf(num(1), alt("B", caseOf(vr("x"), alt("", num(1), "_"), one), "x"))), want)
			}
		}
		// An expression may ask for it with fewer than it has, with all, and with more: of which type that is, is said elsewhere.
		e := great(c.great)
		for n := range 7 {
			wantScope(t, c.great+" called "+strconv.Itoa(n)+" times", shaped(e), true)
			wantScope(t, c.great+" called by another "+strconv.Itoa(n)+" times", shaped(app(great("E"), e)), true)
			e = app(e, num(n))
		}
	}
	wantScopes(t, false,
		"data T = A Int\nmain = case A 1 of { A -> 1 }", "data T = A Int\nmain = case A 1 of { A x y -> 1 }", "data T = A\nmain = case A of { A x -> x }",
		"main = case True of { True x -> 1 }", "main = case True of { False _ -> 1 }", "main = case True of { True -> 1 ; False x y -> 1 }",
	)
	wantScopes(t, true, "data T = A Int\nmain = case A 1 of { A x -> x }", "data T = A Int T\nmain = A 1", "data T = A Int T\nmain = A", "main = True 1 2")
}

// As many Vars as its own Con has, not as another one has.
func TestScopeOfVarsOfAnotherCon(t *testing.T) {
	i := tyInt()
	datas := []impl.Data{data("T", con("A", i), con("B", i, i)), data("U", con("C"))}
	for _, c := range []struct {
		alts []impl.Alt
		want bool
	}{
		{[]impl.Alt{alt("A", num(1), "x"), alt("B", num(1), "x", "y"), alt("C", num(1))}, true},
		{[]impl.Alt{alt("A", num(1), "x", "y"), alt("B", num(1), "x")}, false},
		{[]impl.Alt{alt("A", num(1), "x"), alt("B", num(1), "x")}, false},
		{[]impl.Alt{alt("A", num(1)), alt("C", num(1))}, false},
		{[]impl.Alt{alt("C", num(1), "x"), alt("A", num(1), "x")}, false},
	} {
		wantScope(t, "Alts", impl.Prog{Datas: datas, Decs: decs(dec("main", caseOf(num(1), c.alts...)))}, c.want)
	}
}

func TestScopeOfAltsWithoutGreatNames(t *testing.T) {
	for _, datas := range [][]impl.Data{nil, shapes()} {
		for _, s := range []string{"x", "_", "top"} {
			wantScope(t, "an Alt of "+s, impl.Prog{Datas: datas, Decs: decs(dec("top", caseOf(num(1), alt("", num(1), s))))}, true)
			wantScope(t, "two Alts of "+s, impl.Prog{Datas: datas, Decs: decs(dec("top", caseOf(num(1), alt("", vr("top"), s), alt("", num(1), s))))}, true)
			wantScope(t, "what it does not bind", impl.Prog{Datas: datas, Decs: decs(dec("top", caseOf(num(1), alt("", vr("y"), s))))}, false)
		}
		// No great name and no name, or more than one, is not right.
		wantScope(t, "no name", impl.Prog{Datas: datas, Decs: decs(dec("top", caseOf(num(1), alt("", num(1)))))}, false)
		wantScope(t, "two names", impl.Prog{Datas: datas, Decs: decs(dec("top", caseOf(num(1), alt("", num(1), "x", "y"))))}, false)
	}
}

// wantTyScope has ty as an Arg at each place where one may stand.
func wantTyScope(t *testing.T, what string, ty impl.Ty, want bool) {
	t.Helper()
	i := tyInt()
	before, behind := data("Before", con("B")), data("Behind", con("C"))
	for at, arg := range []impl.Ty{ty, tyFun(ty, i), tyFun(i, ty), tyFun(tyFun(i, ty), i), tyFun(i, tyFun(i, tyFun(ty, i)))} {
		for _, c := range []impl.Data{
			data("Own", con("A", arg)), data("Own", con("Z"), con("A", arg)), data("Own", con("A", i, tyBool(), tyData("Own"), arg)), data("Own", con("A", arg, i), con("Z", i)),
		} {
			wantScope(t, what+" "+strconv.Itoa(at), progOf(before, c, behind), want)
		}
	}
}

func TestScopeOfTypes(t *testing.T) {
	wantTyScope(t, "Int", tyInt(), true)
	wantTyScope(t, "Bool", tyBool(), true)
	wantTyScope(t, "itself", tyData("Own"), true)
	wantTyScope(t, "one that is ahead", tyData("Before"), true)
	wantTyScope(t, "one that comes behind", tyData("Behind"), true)
	wantTyScope(t, "functions", tyFun(tyData("Own"), tyData("Behind")), true)
	for _, s := range []string{"None", "A", "B", "C", "True", "False", "Owns", "Ow", "OWN"} {
		wantTyScope(t, "no Data", tyData(s), false)
	}
	wantTyScope(t, "a function from none", tyFun(tyData("None"), tyInt()), false)
	wantTyScope(t, "a function to none", tyFun(tyInt(), tyData("None")), false)
	// What a Con's Args may not be of at all.
	i := tyInt()
	for _, ty := range []impl.Ty{
		{}, {K: impl.TVar}, {K: impl.TVar, N: 1}, {K: impl.TVar, S: "Own"}, {K: 6}, {K: -1}, {K: math.MaxInt}, {K: math.MinInt}, {K: 6, S: "Own"},
		{K: impl.TInt, S: "Own"}, {K: impl.TInt, N: 1}, {K: impl.TInt, L: []impl.Ty{i}}, {K: impl.TBool, S: "Own"}, {K: impl.TBool, N: -1},
		{K: impl.TData}, tyData("own"), tyData("Int"), tyData("Bool"), tyData("_"), {K: impl.TData, S: "Own", N: 1}, {K: impl.TData, S: "Own", L: []impl.Ty{i}},
		{K: impl.TFun}, {K: impl.TFun, L: []impl.Ty{i}}, {K: impl.TFun, L: []impl.Ty{i, i, i}}, {K: impl.TFun, S: "Own", L: []impl.Ty{i, i}}, arrows(6), leftArrows(6),
	} {
		wantTyScope(t, "no type of an Arg", ty, false)
	}
	wantScopes(t, true, "data T = A T | B (T -> U) Int\ndata U = C (T -> U -> Bool)\nmain = 1", "main = 1\ndata T = A U\ndata U = B T")
	wantScopes(t, false, "data T = A U\nmain = 1", "data T = A\ndata U = B A\nmain = 1", "data T = A | B (T -> T -> U)\nmain = 1", "data T = A ((U -> T) -> T)\nmain = 1", "data T = A True\nmain = 1")
}

func TestScopeAtTheLimits(t *testing.T) {
	datas, all := []impl.Data{}, num(1)
	for i := range 5 {
		d := data("T" + strconv.Itoa(i))
		for c := range 5 {
			next := tyData("T" + strconv.Itoa((i+c)%5))
			one := con("C"+strconv.Itoa(i)+strconv.Itoa(c), next, tyFun(next, tyFun(next, tyFun(next, tyFun(next, next)))), tyInt(), tyBool())
			d.Cons = append(d.Cons, one)
		}
		datas = append(datas, d)
		all = app(all, caseOf(great("C"+strconv.Itoa(i)+"4"), alt("C"+strconv.Itoa(i)+"3", vr("d11"), "a", "b", "c", "d")))
	}
	l := numbered(12)
	l[0].E = all
	p := impl.Prog{Datas: datas, Decs: l}
	wantScope(t, "as much as there may be", p, true)
	for i, d := range datas {
		for c, one := range d.Cons {
			wantMaker(t, p, one.Name, 4, "T"+strconv.Itoa(i))
			kept := one.Args[1].L[1].L[1].L[1].L[1].S
			one.Args[1].L[1].L[1].L[1].L[1].S = "None"
			wantScope(t, "the last type of "+strconv.Itoa(c), p, false)
			one.Args[1].L[1].L[1].L[1].L[1].S = kept
		}
	}
	wantScope(t, "as it was", p, true)
	wantScope(t, "a Dec more", impl.Prog{Datas: datas, Decs: append(numbered(12), dec("more", num(1)))}, false)
	wantScope(t, "a Data more", impl.Prog{Datas: append(slices.Clone(datas), data("More", con("More"))), Decs: l}, false)
	wantScope(t, "a Dec less", impl.Prog{Datas: datas, Decs: l[:11]}, false)
	wantScope(t, "a Data less", impl.Prog{Datas: datas[:4], Decs: l}, false)
	wantScope(t, "12 deep", shaped(chain(12)), true)
	wantScope(t, "13 deep", shaped(chain(13)), false)
	wantScope(t, "200 Exps", shaped(sized(200)), true)
	wantScope(t, "201 Exps", shaped(sized(201)), false)
}

func TestScopeOfWhatIsNotRight(t *testing.T) {
	for _, p := range []impl.Prog{
		{}, {Datas: shapes()}, {Decs: []impl.Dec{{}}}, {Decs: decs(dec("main", impl.Exp{}))}, {Decs: decs(dec("Main", num(1)))}, {Decs: decs(dec("main", num(-1)))}, {Decs: decs(dec("main", num(1000000)))},
		{Decs: decs(dec("f", num(1)), dec("f", num(1)))}, {Decs: decs(dec("f", num(1), "x", "x"))}, {Decs: decs(dec("f", vr("_"), "_"))}, {Decs: decs(dec("f", let(num(1))))}, {Decs: decs(dec("f", impl.Exp{K: impl.ECase, L: []impl.Exp{num(1)}}))},
		{Decs: decs(dec("f", impl.Exp{K: impl.EVar, S: "f", N: 1}))}, {Decs: decs(dec("f", impl.Exp{K: impl.EGreat, S: "True", L: []impl.Exp{num(1)}}))}, {Decs: decs(dec("f", great("f")))}, {Decs: decs(dec("f", great("")))},
		{Decs: decs(dec("f", caseOf(num(1), alt("f", num(1)))))}, progOf(data("T")), progOf(impl.Data{}), progOf(data("t", con("A"))), progOf(data("T", con("a"))), progOf(data("Int", con("A"))), progOf(data("T", con("Int"))),
		progOf(data("T", con("A")), data("T", con("B"))), progOf(data("T", con("A")), data("U", con("A"))), progOf(data("T", con("A", tyInt(), tyInt(), tyInt(), tyInt(), tyInt()))),
	} {
		wantProg(t, "not right", p, false)
		wantScope(t, "not right", p, false)
	}
	// A great name that is no great name is not right, though a Con of it stands there.
	p := progOf(data("T", con("a")))
	p.Decs[0].E = great("a")
	wantScope(t, "a Con of a small name", p, false)
	// What lies behind the length is neither asked for nor there.
	l := decs(dec("main", vr("f")), dec("f", num(1)), dec("g", vr("h")))
	wantScope(t, "a Dec behind the length", impl.Prog{Decs: l[:1]}, false)
	wantScope(t, "a Dec within the length", impl.Prog{Decs: l[:2]}, true)
	wantScope(t, "what a Dec behind the length asks for", impl.Prog{Decs: l}, false)
	datas := []impl.Data{data("T", con("A", tyData("U"))), data("U", con("B"))}
	wantScope(t, "a Data behind the length", progOf(datas[:1]...), false)
	wantScope(t, "a Data within the length", progOf(datas...), true)
}

// scopeByHand tells of each name, great name and type, as it is come upon, whether it is there.
func scopeByHand(p impl.Prog) bool {
	if !impl.ProgOk(p) {
		return false
	}
	args, datas, names := map[string]int{"True": 0, "False": 0}, map[string]int{}, []string{}
	for _, d := range p.Datas {
		datas[d.Name]++
		for _, c := range d.Cons {
			args[c.Name] = len(c.Args)
		}
	}
	for _, d := range p.Decs {
		names = append(names, d.Name)
	}
	ok, free := true, map[string]int{}
	var lookTy func(ty impl.Ty)
	lookTy = func(ty impl.Ty) {
		ok = ok && (ty.K != impl.TData || datas[ty.S] > 0)
		for _, part := range ty.L {
			lookTy(part)
		}
	}
	for _, d := range p.Datas {
		for _, c := range d.Cons {
			for _, ty := range c.Args {
				lookTy(ty)
			}
		}
	}
	for _, d := range p.Decs {
		freeOfDecByHand(d, names, free)
		eachGreat(d, func(s string, vars int) {
			n, there := args[s]
			ok = ok && there && (vars < 0 || vars == n)
		})
	}
	return ok && len(free) == 0
}

// eachGreat tells each great name of a Dec, and with how many Vars (-1: in an expression).
func eachGreat(d impl.Dec, tell func(s string, vars int)) {
	var look func(e impl.Exp)
	look = func(e impl.Exp) {
		if e.K == impl.EGreat {
			tell(e.S, -1)
		}
		for _, x := range e.L {
			look(x)
		}
		for _, x := range e.Decs {
			eachGreat(x, tell)
		}
		for _, a := range e.Alts {
			if a.Great != "" {
				tell(a.Great, len(a.Vars))
			}
			look(a.E)
		}
	}
	look(d.E)
	for _, w := range d.Where {
		eachGreat(w, tell)
	}
}

// Each change of a program, on the spot, of each number, text and list in it.
func TestScopeOfEachChange(t *testing.T) {
	first := wholeProg()
	wantScope(t, "the whole", first, true)
	seen := map[string]int{}
	for i := range changes(reflect.ValueOf(&first).Elem()) {
		p := wholeProg()
		changes(reflect.ValueOf(&p).Elem())[i]()
		want := scopeByHand(p)
		wantScope(t, "change "+strconv.Itoa(i), p, want)
		seen["right "+strconv.FormatBool(impl.ProgOk(p))+", known "+strconv.FormatBool(want)]++
		for _, c := range first.Datas[0].Cons {
			impl.ArityOf(p, c.Name)
			impl.DataOf(p, c.Name)
		}
	}
	if seen["right true, known true"] < 30 || seen["right true, known false"] < 30 || seen["right false, known false"] < 300 || len(seen) != 3 {
		t.Error("too few to tell:", seen)
	}
}

// missing answers what must be put to a right program so that all of it is there: Decs, and Datas with a Con for each great name.
func missing(p impl.Prog) ([]impl.Dec, []impl.Data) {
	names, free, args := []string{}, map[string]int{}, map[string]int{}
	for _, d := range p.Decs {
		names = append(names, d.Name)
	}
	for _, d := range p.Decs {
		freeOfDecByHand(d, names, free)
		eachGreat(d, func(s string, vars int) { args[s] = max(args[s], vars) })
	}
	delete(args, "True")
	delete(args, "False")
	l := []impl.Dec{}
	for _, s := range inOrder("", free) {
		l = append(l, dec(s, num(1)))
	}
	datas := []impl.Data{}
	for i, s := range inOrder("", args) {
		datas = append(datas, data("M"+strconv.Itoa(i), con("N"+strconv.Itoa(i)), con(s, slices.Repeat([]impl.Ty{tyInt()}, args[s])...)))
	}
	return l, datas
}

// P7: a program is accepted with all that it asks for, and refused without any one of it.
func TestInWhatHasTypesNothingIsSaidThatIsNotThere(t *testing.T) {
	r := rand.New(rand.NewSource(71))
	lacking, whole := 0, 0
	for i := range 4000 {
		p := impl.Prog{Decs: append(rightDecs(r, 1+i%6), dec("main", rightExp(r, 1+i%5)))}
		if !impl.ProgOk(p) {
			wantScope(t, "too large", p, false)
			continue
		}
		l, datas := missing(p)
		wantScope(t, impl.ProgText(p), p, len(l)+len(datas) == 0)
		full := impl.Prog{Datas: datas, Decs: append(l, p.Decs...)}
		if !impl.ProgOk(full) {
			continue
		}
		wantScope(t, impl.ProgText(full), full, true)
		whole++
		for at := range l {
			less := impl.Prog{Datas: datas, Decs: slices.Delete(slices.Clone(full.Decs), at, at+1)}
			wantScope(t, "without "+l[at].Name+": "+impl.ProgText(less), less, false)
			lacking++
		}
		for at, d := range datas {
			wantMaker(t, full, d.Cons[1].Name, len(d.Cons[1].Args), d.Name)
			less := impl.Prog{Datas: slices.Delete(slices.Clone(datas), at, at+1), Decs: full.Decs}
			wantNoMakers(t, less, d.Cons[1].Name)
			wantScope(t, "without "+d.Cons[1].Name+": "+impl.ProgText(less), less, false)
			less.Datas = slices.Clone(datas)
			less.Datas[at].Cons = d.Cons[:1]
			wantScope(t, "without the Con "+d.Cons[1].Name, less, false)
			// Its types must be there, too.
			less.Datas[at] = data(d.Name, d.Cons[0], d.Cons[1], con("Last", tyFun(tyInt(), tyData("Other"))))
			wantScope(t, "a type that is not there", less, false)
			less.Datas[at] = data(d.Name, d.Cons[0], d.Cons[1], con("Last", tyFun(tyInt(), tyData(d.Name))))
			wantScope(t, "a type that is there", less, true)
			lacking++
		}
		if t.Failed() {
			return
		}
	}
	if whole < 1500 || lacking < 3000 {
		t.Error("too few to tell:", whole, lacking)
	}
}

func TestScopeOfManyPrograms(t *testing.T) {
	r := rand.New(rand.NewSource(72))
	seen := map[bool]int{}
	for i := range 6000 {
		p := impl.Prog{Datas: rightDatas(r), Decs: rightDecs(r, 1+i%6)}
		if i%2 == 0 {
			p.Datas = append(p.Datas, data("T0", con("A"), con("Bb", tyInt(), rightTy(r, 2), tyInt())))
			p.Datas = p.Datas[max(0, len(p.Datas)-1):]
			p.Decs = append(p.Decs, dec("b", num(1)), dec("c1", num(1)), dec("dD", num(1)))[:len(p.Decs)+r.Intn(4)]
		}
		want := scopeByHand(p)
		wantScope(t, impl.ProgText(p), p, want)
		seen[want]++
		if q, ok := impl.ParseProg(impl.ProgText(p)); ok {
			wantScope(t, "read again: "+impl.ProgText(p), q, want)
		}
		if t.Failed() {
			return
		}
	}
	if seen[true] < 300 || seen[false] < 300 {
		t.Error("too few to tell:", seen)
	}
}

// Whatever is far too deep, too large or goes round is answered, and refused.
func TestScopeOfWhatHasNoEnd(t *testing.T) {
	deepExp := num(1)
	for range 300000 {
		deepExp = lam("x", deepExp)
	}
	round := make([]impl.Exp, 2)
	round[0], round[1] = impl.Exp{K: impl.EApp, L: round}, great("A")
	ring := make([]impl.Dec, 1)
	ring[0] = impl.Dec{Name: "f", E: num(1), Where: ring}
	types := make([]impl.Ty, 2)
	types[0], types[1] = impl.Ty{K: impl.TFun, L: types}, tyInt()
	wide := tyInt()
	for range 100 {
		wide = tyFun(wide, wide)
	}
	for what, p := range map[string]impl.Prog{
		"too deep": shaped(deepExp), "round": shaped(round[0]), "a Where that goes round": {Datas: shapes(), Decs: ring},
		"types that go round":     {Datas: append(shapes(), data("W", con("Z", types...))), Decs: numbered(1)},
		"types that are too deep": {Datas: append(shapes(), data("W", con("Z", arrows(200000)))), Decs: numbered(1)},
		"types that are too wide": {Datas: append(shapes(), data("W", con("Z", wide))), Decs: numbered(1)},
		"too many Decs":           {Datas: shapes(), Decs: numbered(100000)},
	} {
		if impl.ScopeOk(p) {
			t.Errorf("%s: ScopeOk", what)
		}
		wantGiven(t, p)
		wantMaker(t, p, "D", 3, "U")
		wantNoMakers(t, p, "Zz")
	}
	wantMaker(t, progOf(data("W", con("Z", types...))), "Z", 2, "W")
}

// A part that stands at many places of a right program is looked at in each of them.
func TestScopeOfSharedParts(t *testing.T) {
	shared := []impl.Exp{vr("x"), great("B")}
	call := impl.Exp{K: impl.EApp, L: shared}
	p := shaped(app(lam("x", call), lam("x", call)))
	wantScope(t, "bound by both", p, true)
	wantScope(t, "bound by one", shaped(app(lam("x", call), lam("y", call))), false)
	shared[1] = great("Zz")
	wantScope(t, "no Con", p, false)
}

func TestNothingIsWrittenIntoWhatIsKnown(t *testing.T) {
	unknown, alike, wrong := wholeProg(), wholeProg(), wholeProg()
	unknown.Decs[2].E = app(great("Zz"), vr("zz"))
	alike.Datas[1].Cons = append(alike.Datas[1].Cons, con("A", tyInt()))
	wrong.Decs[2].Where = decs(dec("A", impl.Exp{K: 44}))
	asked := []string{"A", "B", "C", "T", "True", "False", "Zz", "", "behind"}
	for i, base := range []impl.Prog{wholeProg(), unknown, alike, wrong, {}} {
		p := roomy(reflect.ValueOf(base)).Interface().(impl.Prog)
		kept := toldWithRoom(reflect.ValueOf(p))
		for range 3 {
			wantScope(t, "program "+strconv.Itoa(i), p, i == 0)
			for _, s := range asked {
				wantMaker(t, p, s, impl.ArityOf(base, s), impl.DataOf(base, s))
			}
			wantNoMakers(t, p, "behind", "Zz", "")
		}
		if toldWithRoom(reflect.ValueOf(p)) != kept {
			t.Errorf("program %d was written into", i)
		}
	}
}

// What was answered of one program is nothing to another.
func TestNothingIsKeptOfWhatIsKnown(t *testing.T) {
	p, q := progOf(data("T", con("A", tyInt()))), progOf(data("U", con("A"), con("B")))
	p.Decs[0].E = caseOf(num(1), alt("A", num(1), "x"))
	q.Decs[0].E = caseOf(num(1), alt("A", great("B")))
	for range 3 {
		wantMaker(t, p, "A", 1, "T")
		wantNoMakers(t, p, "B")
		wantScope(t, "the one", p, true)
		wantMaker(t, q, "A", 0, "U")
		wantMaker(t, q, "B", 0, "U")
		wantScope(t, "the other", q, true)
		wantScope(t, "the one's Datas", impl.Prog{Datas: p.Datas, Decs: q.Decs}, false)
		wantScope(t, "the other's Datas", impl.Prog{Datas: q.Datas, Decs: p.Decs}, false)
	}
}
