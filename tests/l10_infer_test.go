package tests

import (
	"math"
	"reflect"
	"slices"
	"strconv"
	"strings"
	"testing"

	"loop.example/g00471/impl"
)

func progRead(t *testing.T, s string) impl.Prog {
	t.Helper()
	p, ok := impl.ParseProg(s)
	if !ok {
		t.Fatalf("%q is not read", s)
	}
	return p
}

// bindsText tells each name and its type.
func bindsText(l []impl.Bind) string {
	texts := []string{}
	for _, b := range l {
		texts = append(texts, b.Name+": "+impl.TyText(b.T))
	}
	return strings.Join(texts, "; ")
}

// checkTypeCalls holds what TypeOk and TypeOf answer against TypesOf.
func checkTypeCalls(t *testing.T, what string, p impl.Prog) ([]impl.Bind, bool) {
	t.Helper()
	binds, ok := impl.TypesOf(p)
	isMain := func(d impl.Dec) bool { return d.Name == "main" && len(d.Pars) == 0 }
	if impl.TypeOk(p) != (ok && slices.ContainsFunc(p.Decs, isMain)) {
		t.Errorf("%s: TypeOk = %v beside TypesOf = %v", what, impl.TypeOk(p), ok)
	}
	if !ok && len(binds) != 0 || ok && len(binds) != len(p.Decs) {
		t.Errorf("%s: TypesOf = %d of %d, %v", what, len(binds), len(p.Decs), ok)
		return nil, false
	}
	for i, d := range p.Decs {
		x, is := impl.TypeOf(p, d.Name)
		if is != ok || !ok && told(x) != told(impl.Ty{}) || ok && (binds[i].Name != d.Name || told(x) != told(binds[i].T)) {
			t.Errorf("%s: TypeOf %q = %s, %v beside TypesOf = %s, %v", what, d.Name, told(x), is, told(binds), ok)
		}
	}
	return binds, ok
}

// wantTypes is handed a text, and each name of it with its type.
func wantTypes(t *testing.T, text, want string) {
	t.Helper()
	binds, ok := checkTypeCalls(t, text, progRead(t, text))
	if got := bindsText(binds); !ok || got != want {
		t.Errorf("TypesOf %q = %q, %v; want %q", text, got, ok, want)
	}
}

// wantMain is handed texts of what a `main` is, each with its type.
func wantMain(t *testing.T, ahead string, l ...naming) {
	t.Helper()
	for _, c := range l {
		p := progRead(t, ahead+"main = "+c.text)
		checkTypeCalls(t, c.text, p)
		x, ok := impl.TypeOf(p, "main")
		if got := impl.TyText(x); !ok || got != c.names {
			t.Errorf("%smain = %s: TypeOf = %q, %v; want %q", ahead, c.text, got, ok, c.names)
		}
	}
}

func wantNoTypesOf(t *testing.T, what string, p impl.Prog) {
	t.Helper()
	if binds, ok := checkTypeCalls(t, what, p); ok {
		t.Errorf("%s: TypesOf = %s", what, bindsText(binds))
	}
}

// wantNoTypes reads texts which are ScopeOk: it is their types that there are none of.
func wantNoTypes(t *testing.T, texts ...string) {
	t.Helper()
	for _, s := range texts {
		p := progRead(t, s)
		wantScope(t, s, p, true)
		wantNoTypesOf(t, s, p)
	}
}

func wantNoMain(t *testing.T, ahead string, texts ...string) {
	t.Helper()
	for _, s := range texts {
		wantNoTypes(t, ahead+"main = "+s)
	}
}

// A typing is an expression, and of which type it is.
type typing struct{ exp, ty string }

const makings = "data L = N | C Int L\ndata M = P Bool | Q Int Bool L M | R (Int -> Bool) (M -> L -> Int)\n"

// ofEachType are expressions of types that no two of are the same, beside makings.
func ofEachType() []typing {
	return []typing{
		{"7", "Int"}, {"True", "Bool"}, {"N", "L"}, {"P False", "M"}, {`(\x -> x + 1)`, "Int -> Int"}, {`(\x -> x < 1)`, "Int -> Bool"},
		{"C", "Int -> L -> L"}, {"C 1", "L -> L"}, {"P", "Bool -> M"}, {"Q 1", "Bool -> L -> M -> M"}, {"R (\\x -> x < 2)", "(M -> L -> Int) -> M"},
	}
}

func TestTypeOfEachKind(t *testing.T) {
	wantMain(t, makings,
		naming{"0", "Int"}, naming{"999999", "Int"}, naming{"True", "Bool"}, naming{"False", "Bool"},
		naming{"N", "L"}, naming{"C", "Int -> L -> L"}, naming{"P", "Bool -> M"}, naming{"Q", "Int -> Bool -> L -> M -> M"}, naming{"R", "(Int -> Bool) -> (M -> L -> Int) -> M"},
		naming{"C 1", "L -> L"}, naming{"C 1 N", "L"}, naming{"C 1 (C 2 N)", "L"}, naming{"Q 1 True N", "M -> M"}, naming{"Q 1 True N (P True)", "M"}, naming{`R (\x -> x == 1)`, "(M -> L -> Int) -> M"},
		naming{`\x -> x`, "t0 -> t0"}, naming{`\x -> \y -> x`, "t0 -> t1 -> t0"}, naming{`\x -> \x -> x`, "t0 -> t1 -> t1"}, naming{`\_ -> 1`, "t0 -> Int"}, naming{`\_ -> \_ -> True`, "t0 -> t1 -> Bool"},
		naming{`\f -> \x -> f x`, "(t0 -> t1) -> t0 -> t1"}, naming{`\f -> f 1 True`, "(Int -> Bool -> t0) -> t0"}, naming{`\f -> \x -> f (f x)`, "(t0 -> t0) -> t0 -> t0"},
		naming{`\f -> \g -> \x -> f x (g x)`, "(t0 -> t1 -> t2) -> (t0 -> t1) -> t0 -> t2"}, naming{`(\x -> x) 1`, "Int"}, naming{`(\x -> x) (\x -> x)`, "t0 -> t0"},
		naming{"let x = 1 in x", "Int"}, naming{`let f x = x in f`, "t0 -> t0"}, naming{"let { x = y ; y = 1 } in x < y", "Bool"}, naming{`\x -> let y = x in y`, "t0 -> t0"},
		naming{"case 1 of { x -> x }", "Int"}, naming{"case True of { _ -> N }", "L"}, naming{`\x -> case x of { y -> y }`, "t0 -> t0"}, naming{`\x -> case x of { _ -> x }`, "t0 -> t0"},
		naming{`\x -> case x of { True -> 1 }`, "Bool -> Int"}, naming{`\x -> case x of { False -> x }`, "Bool -> Bool"}, naming{`\x -> case x of { N -> 1 ; C h l -> h }`, "L -> Int"}, naming{`\x -> case x of { C _ l -> l }`, "L -> L"},
		naming{`\x -> case x of { Q a b c d -> \f -> f a b c d }`, "M -> (Int -> Bool -> L -> M -> t0) -> t0"}, naming{`\x -> case x of { R f _ -> f }`, "M -> Int -> Bool"}, naming{`\x -> case x of { R _ f -> f }`, "M -> M -> L -> Int"},
		naming{`\x -> \y -> case x of { y -> y }`, "t0 -> t1 -> t0"}, naming{`\x -> case 1 of { _ -> x ; _ -> 2 }`, "Int -> Int"},
		naming{"if True then 1 else 2", "Int"}, naming{`\x -> \y -> \z -> if x then y else z`, "Bool -> t0 -> t0 -> t0"}, naming{`\x -> if x == 1 then \y -> y else \z -> z + x`, "Int -> Int -> Int"},
		naming{"1 + 2", "Int"}, naming{"1 - 2", "Int"}, naming{"1 * 2", "Int"}, naming{"1 == 2", "Bool"}, naming{"1 < 2", "Bool"},
		naming{`\x -> \y -> x + y`, "Int -> Int -> Int"}, naming{`\x -> \y -> x - y`, "Int -> Int -> Int"}, naming{`\x -> \y -> x * y`, "Int -> Int -> Int"}, naming{`\x -> \y -> x == y`, "Int -> Int -> Bool"}, naming{`\x -> \y -> x < y`, "Int -> Int -> Bool"},
		naming{"main", "t0"}, naming{"main + main", "Int"}, naming{`\x -> main x`, "t0 -> t1"}, naming{"if main then main else main", "Bool"},
	)
}

// Each place asks for what is of one type: all others are refused there.
func TestTypeThatIsAskedFor(t *testing.T) {
	for _, c := range []struct{ asked, ahead, behind, ty string }{
		{"Bool", "if ", " then 1 else 2", "Int"}, {"Int", "if True then ", " else 2", "Int"}, {"Bool", "if True then False else ", "", "Bool"}, {"L", "if True then N else ", "", "L"}, {"Int -> Int", `if True then (\x -> x + x) else `, "", "Int -> Int"},
		{"Int", "", " + 1", "Int"}, {"Int", "1 + ", "", "Int"}, {"Int", "", " - 1", "Int"}, {"Int", "1 - ", "", "Int"}, {"Int", "", " * 1", "Int"}, {"Int", "1 * ", "", "Int"},
		{"Int", "", " == 1", "Bool"}, {"Int", "1 == ", "", "Bool"}, {"Int", "", " < 1", "Bool"}, {"Int", "1 < ", "", "Bool"},
		{"Int", "C (", ") N", "L"}, {"L", "C 1 (", ")", "L"}, {"Bool", "P (", ")", "M"}, {"Int", "Q (", ") True N (P True)", "M"}, {"Bool", "Q 1 (", ") N (P True)", "M"}, {"L", "Q 1 True (", ") (P True)", "M"}, {"M", "Q 1 True N (", ")", "M"}, {"Int -> Bool", "R (", `) (\a -> \b -> 1)`, "M"},
		{"Bool", "case ", " of { True -> 1 }", "Int"}, {"Bool", "case ", " of { _ -> 2 ; False -> 1 }", "Int"}, {"L", "case ", " of { N -> 1 }", "Int"}, {"L", "case ", " of { C h l -> h }", "Int"}, {"M", "case ", " of { x -> 1 ; P x -> 2 }", "Int"},
		{"Int", "case 0 of { _ -> 1 ; _ -> ", " }", "Int"}, {"Bool", "case True of { True -> ", " ; False -> True }", "Bool"}, {"L", "case N of { N -> N ; C _ _ -> ", " ; _ -> N }", "L"},
		{"Int -> Bool", "if (", ") 1 then 1 else 2", "Int"}, {"Int -> Int", "(", ") 1 + 1", "Int"}, {"L -> L", "case (", ") N of { N -> 1 }", "Int"}, {"Int", `(\x -> x + 1) (`, ")", "Int"}, {"Int", "let f x = x == 1 in f (", ")", "Bool"},
		{"Int", "let { x = ", " } in x + 1", "Int"}, {"Bool", "let { x = ", " } in if x then 1 else 2", "Int"},
	} {
		for _, x := range ofEachType() {
			if text := c.ahead + "(" + x.exp + ")" + c.behind; x.ty == c.asked {
				wantMain(t, makings, naming{text, c.ty})
			} else {
				wantNoMain(t, makings, text)
			}
		}
		// What is of any type is taken for the one that is asked for.
		wantMain(t, makings+"any = any\n", naming{c.ahead + "any" + c.behind, c.ty})
	}
}

// What two of an `if`, or of a `case`, are of must be the same, whatever that is.
func TestTypesThatMustBeTheSame(t *testing.T) {
	for _, a := range ofEachType() {
		wantMain(t, makings, naming{a.exp, a.ty}, naming{`\x -> case x of { y -> ` + a.exp + " }", "t0 -> " + a.ty})
		for _, b := range ofEachType() {
			for _, text := range []string{
				"if True then " + a.exp + " else " + b.exp, "case True of { True -> " + a.exp + " ; False -> " + b.exp + " }", "case N of { N -> " + a.exp + " ; C _ _ -> " + a.exp + " ; _ -> " + b.exp + " }",
				"case 1 of { _ -> " + b.exp + " ; y -> " + a.exp + " }", `(\f -> if True then f (` + a.exp + ") else f (" + b.exp + `)) (\x -> x)`,
			} {
				text = strings.NewReplacer("then "+a.exp, "then ("+a.exp+")", "else "+b.exp, "else ("+b.exp+")").Replace(text)
				if a == b {
					wantMain(t, makings, naming{text, a.ty})
				} else {
					wantNoMain(t, makings, text)
				}
			}
		}
	}
}

func TestTypesOfAlts(t *testing.T) {
	wantMain(t, makings,
		naming{"case C 1 N of { C a b -> a + 1 }", "Int"}, naming{"case P True of { P a -> if a then 1 else 2 ; Q a b c d -> a ; R f g -> g (P (f 1)) N ; x -> 3 }", "Int"},
		naming{"case N of { N -> 1 ; x -> case x of { C h l -> h ; _ -> 2 } }", "Int"}, naming{`case (\x -> x + 1) of { f -> f (f 1) }`, "Int"}, naming{"case C of { f -> f 1 }", "L -> L"},
	)
	wantNoMain(t, makings,
		"case N of { P a -> a }", "case P True of { N -> 1 ; P a -> 2 }", "case True of { N -> 1 ; True -> 1 }", "case N of { True -> 1 }", "case 1 of { N -> 1 }", "case 1 of { True -> 1 }", "case C of { C a b -> a }", "case C 1 of { C a b -> a }",
		"case C 1 N of { C a b -> if a then 1 else 2 }", "case C 1 N of { C a b -> b + 1 }", "case P True of { P a -> a + 1 }", "case P True of { Q a b c d -> if a then b else b }", "case P True of { R f g -> f True }", "case P True of { R f g -> g N }",
		"case N of { N -> 1 ; x -> x }", "case N of { x -> x + 1 }", "case 1 of { x -> if x then 1 else 2 }", `\x -> case x of { True -> x + 1 }`, `\x -> case x of { N -> x ; P _ -> N }`, `\x -> case x of { y -> y ; _ -> x x }`,
	)
}

// A name is of any type that fits behind its group, at the top, in a let and in a Where.
func TestNameBehindItsGroup(t *testing.T) {
	wantTypes(t, "i x = x\nmain = if i True then i 1 else i i 2", "i: t0 -> t0; main: Int")
	wantTypes(t, "main = if i True then i 1 else i i 2\ni x = x", "main: Int; i: t0 -> t0")
	wantTypes(t, "main = let i x = x in if i True then i 1 else i i 2", "main: Int")
	wantTypes(t, "main = let { a = i True ; i x = x ; b = i 1 } in if a then b else 2", "main: Int")
	wantTypes(t, "main = if i True then i 1 else i i 2 where { i x = x }", "main: Int")
	wantTypes(t, "main = a where { a = if i True then i 1 else 2 ; i = \\x -> x }", "main: Int")
	wantTypes(t, "f x = k x 1 where { k a b = a }\nmain = if f True then f 1 else f 2", "f: t0 -> t0; main: Int")
	wantTypes(t, "k x y = x\nmain = k 1 True + k 2 k", "k: t0 -> t1 -> t0; main: Int")
	wantTypes(t, "any = any\nmain = if any then any + 1 else any any", "any: t0; main: Int")
	wantTypes(t, "a x = b 1\nb x = a True", "a: Bool -> t0; b: Int -> t0")
	wantTypes(t, "a x = b x\nb x = a x\nmain = if a True then a 1 else b b", "a: t0 -> t1; b: t0 -> t1; main: t0")
	wantTypes(t, "main = let { ev x = if x == 0 then k 1 x else od (x - 1) ; od x = k 0 (ev (x - 1)) ; k x y = x } in ev 3 + k 1 True", "main: Int")
	wantTypes(t, "comp f g x = f (g x)\nmain = comp (\\x -> x < 1) (comp (\\x -> if x then 1 else 2) (\\x -> x == 3)) 4", "comp: (t0 -> t1) -> (t2 -> t0) -> t2 -> t1; main: Bool")
	// What is of one group only by another name of the let is of it no more when it stands behind it.
	wantTypes(t, "f = \\x -> let { g y = h y ; h z = z } in if h True then g x else h x\nmain = f 1", "f: t0 -> t0; main: Int")
}

// Within its group a name is of one type, whatever it could be of.
func TestNameWithinItsGroup(t *testing.T) {
	wantNoTypes(t,
		"f x = if f True == f 1 then 1 else 2", "f x = f 1 + f True", "f x = case f True of { _ -> f 1 }", "main = f\nf x = if f 1 == f True then 1 else 2", "f = \\x -> if True then f 1 else f x x",
		"a x = b 1 + b True\nb x = a x", "a x = b 1\nb x = if True then a x else a True", "a x = b 1 + c True\nb x = d x\nc x = b x\nd x = a x", "main = let f x = if f True == f 1 then 1 else 2 in 3", "main = 1 where { f x = f 1 + f True }",
		"main = let { a x = b x ; b y = case a 1 of { _ -> a True } } in 3", "f x = let g y = f y in if g True then 1 else g 1", "f x = let g y = f y in case g True of { _ -> g 1 }", "f x = g 1 where { g y = f y ; h = g True }", "a = \\x -> let g = b in if g True then g 1 else g 2\nb x = a x",
		"i x = if True then x else j x\nj x = i 1\nmain = i True",
	)
	wantTypes(t, "f x = if True then x else f x", "f: t0 -> t0")
	wantTypes(t, "f x y = if True then x else f y x", "f: t0 -> t0 -> t0")
	wantTypes(t, "f x = g x\ng y = if True then y else f y\nmain = if f True then g 1 else f 2", "f: t0 -> t0; g: t0 -> t0; main: Int")
	// j, which needs i, makes i's type less general only if i needs j.
	wantTypes(t, "i x = x\nj x = i 1\nmain = i True", "i: t0 -> t0; j: t0 -> Int; main: Bool")
	wantTypes(t, "i x = if True then x else j x\nj x = i 1", "i: Int -> Int; j: Int -> Int")
	wantTypes(t, "a = b 1\nb x = if x < 1 then x else a", "a: Int; b: Int -> Int")
	wantTypes(t, "a x = b\nb = c 1\nc y = if True then a y else b", "a: Int -> t0; b: t0; c: Int -> t0")
	wantTypes(t, "f x = let g y = f y in g x", "f: t0 -> t1")
	wantTypes(t, "f x = let g y z = f z in if g True x then g 1 x else g g x", "f: t0 -> Bool")
}

// A name of an ELam, of an Alt and of Pars is of one type wherever it is used.
func TestNamesOfOneType(t *testing.T) {
	wantNoTypes(t,
		`main = (\i -> if i True then i 1 else 2) (\x -> x)`, `main = \f -> if f True then f 1 else 2`, `main = \x -> if x then x + 1 else 2`, "f i = if i True then i 1 else 2", "f a i b = case i a of { _ -> i True ; _ -> i 1 }",
		"main = f (\\x -> x)\nf i = if i True then i 1 else 2", "main = case (\\x -> x) of { i -> if i True then i 1 else 2 }", "data T = A (Int -> Int)\nmain = case A (\\x -> x) of { A i -> if i True then 1 else 2 }", "f i = a where { a = if i True then i 1 else 2 }",
		"f i = let a = i True in i 1 + (if a then 1 else 2)", "f i = let { a = i True ; b = i 1 } in 3", "main = \\i -> let { a = i True ; b = i 1 } in 3", "main = \\m -> case m of { i -> let { a = i True ; b = i 1 } in 3 }", `main = \i -> \j -> case i of { True -> i + 1 }`,
		"f x = case x of { y -> if y then 1 else x }",
	)
	wantMain(t, "",
		naming{`(\i -> if i 1 < i 2 then i 1 else 2) (\x -> x)`, "Int"}, naming{`case (\x -> x) of { i -> i 1 + i 2 }`, "Int"}, naming{`\f -> f (f True)`, "(Bool -> Bool) -> Bool"},
	)
}

// A name behind its group is of one type in what names around it are of, and of any in the rest.
func TestWhatNamesAroundAreOf(t *testing.T) {
	wantMain(t, "k x y = x\n",
		naming{`\x -> let y = x in y`, "t0 -> t0"}, naming{`\x -> let f y = x in f 1`, "t0 -> t0"}, naming{`\x -> let f y = x in k (f 1) (f True)`, "t0 -> t0"}, naming{`\x -> let f y = k y x in k (f 1) (f True)`, "t0 -> Int"},
		naming{`\x -> let f y = k x y in if f True then f 1 else f f`, "Bool -> Bool"}, naming{`\x -> let { f = x ; g = f } in g + 1`, "Int -> Int"}, naming{`\g -> let f x = g x in f`, "(t0 -> t1) -> t0 -> t1"}, naming{`\g -> let f x y = g x in k (f 1 True) (f 2 3)`, "(Int -> t0) -> t0"},
		naming{`case k of { f -> let g x = f x in g 1 True }`, "Int"}, naming{`\x -> \x -> let f y = x in k (f 1) (f True)`, "t0 -> t1 -> t1"}, naming{`\x -> let h = x in \x -> let f y = h in k (f 1) (f True)`, "t0 -> t1 -> t0"},
	)
	wantNoMain(t, "k x y = x\n",
		`\x -> let y = x in if y then y + 1 else 2`, `\x -> let f y = x in if f 1 then f True + 1 else 2`, `\g -> let f x = g x in if f True then f 1 else 2`, `\g -> let f x = g x in k (f 1) (f True)`, `\x -> let { f = x ; g = f } in if g then f + 1 else 2`,
		`case k of { f -> let g x = f x in k (g 1 True) (g True 1) }`, `\x -> let h = x in \x -> let f y = h in if f 1 then f True + 1 else 2`, `\x -> let f y = if True then x else y in k (f 1) (f True)`,
	)
	wantTypes(t, "f x = g where { g = x }", "f: t0 -> t0")
	wantTypes(t, "f x y = g y 1 where { g a b = if True then a else x }", "f: t0 -> t0 -> t0")
	wantTypes(t, "k x y = x\nf x = k (g 1) (g True) where { g a = x }", "k: t0 -> t1 -> t0; f: t0 -> t0")
	wantNoTypes(t, "k x y = x\nf x = k (g 1) (g True) where { g a = if True then a else x }", "f x = if g then g + 1 else 2 where { g = x }", "f x = h where { h = if g 1 then g True + 1 else 2 ; g a = x }", "k x y = x\nf h = k (g 1) (g True) where { g a = h a }")
	// A name around that is only known later is around all the same.
	wantMain(t, "k x y = x\n", naming{`\x -> let f y = x in k (f 1) (x + 1)`, "Int -> Int"}, naming{`\x -> k (let f y = x in f) (x + 1)`, "Int -> t0 -> Int"}, naming{`\x -> \y -> let f z = x in k (k f (x y)) (y + 1)`, "(Int -> t0) -> Int -> t1 -> Int -> t0"})
	wantNoMain(t, "k x y = x\n", `\x -> let f y = x in k (f 1 + 1) (f True 2)`, `\x -> k (let f y = x in k (f 1 + 1) (f True)) (x 2)`)
}

func TestTypesOfWhatIsBoundTwice(t *testing.T) {
	wantTypes(t, "x = 1\nf x = if x then x else False\ng = x + 1", "x: Int; f: Bool -> Bool; g: Int")
	wantTypes(t, "f f = f + 1", "f: Int -> Int")
	wantTypes(t, "f x = x where { x = True }", "f: t0 -> Bool")
	wantTypes(t, "f x = y x where { x = 1 ; y = \\x -> x == 2 }", "f: t0 -> Bool")
	wantTypes(t, "f x = let x = x + 1 in x", "f: t0 -> Int")
	wantTypes(t, "f x = case x of { x -> x }", "f: t0 -> t0")
	wantTypes(t, "f x = case 1 of { x -> x }\nmain = let main = True in main", "f: t0 -> Int; main: Bool")
	wantTypes(t, "f g = let { g x = x } in if g True then g 1 else 2", "f: t0 -> Int")
	wantTypes(t, "f = let f = 1 in f\ng = f where { f = True }", "f: Int; g: Bool")
	wantTypes(t, "f _ _ x _ = x", "f: t0 -> t1 -> t2 -> t3 -> t2")
	wantTypes(t, "data T = A Int Bool Int\nf x = case x of { A _ y _ -> y }", "f: T -> Bool")
}

// The numbers are 0, 1, ... by their places, in each Dec anew.
func TestNumbersByTheirPlaces(t *testing.T) {
	wantTypes(t, "a x = x\nb x y = y\nc f x y = f y x\nd = c\ne = e", "a: t0 -> t0; b: t0 -> t1 -> t1; c: (t0 -> t1 -> t2) -> t1 -> t0 -> t2; d: (t0 -> t1 -> t2) -> t1 -> t0 -> t2; e: t0")
	wantTypes(t, "e = e\nd = c\nc f x y = f y x\nb x y = y", "e: t0; d: (t0 -> t1 -> t2) -> t1 -> t0 -> t2; c: (t0 -> t1 -> t2) -> t1 -> t0 -> t2; b: t0 -> t1 -> t1")
	wantTypes(t, "k x y = x\nb = k True\nc = k k\nd = c 1 2", "k: t0 -> t1 -> t0; b: t0 -> Bool; c: t0 -> t1 -> t2 -> t1; d: t0 -> Int")
	// Those of one group have numbers in common, and each its own.
	wantTypes(t, "f x y = g y\ng y = f 1 y", "f: Int -> t0 -> t1; g: t0 -> t1")
	wantTypes(t, "a x y = b y x\nb y x = a x y\nc = a 1", "a: t0 -> t1 -> t2; b: t0 -> t1 -> t2; c: t0 -> t1")
	wantTypes(t, "a x = b\nb = a 1\nc = b", "a: Int -> t0; b: t0; c: t0")
	wantTypes(t, "f a b c d = \\e -> \\g -> \\h -> \\i -> \\j -> \\k -> \\l -> 0", "f: t0 -> t1 -> t2 -> t3 -> t4 -> t5 -> t6 -> t7 -> t8 -> t9 -> t10 -> Int")
	wantTypes(t, "f a b c d = \\g -> g d c b a", "f: t0 -> t1 -> t2 -> t3 -> (t3 -> t2 -> t1 -> t0 -> t4) -> t4")
}

// P10: what is no function, and what may stand ahead of it.
func notCalled() (ahead string, exps []string) {
	return makings + "n = 1\ni x = x\nk x y = x\nap f x = f x\ntw f x = f (f x)\nadd x y = x + y\nlen l = case l of { N -> 0 ; C h t -> 1 + len t }\n", []string{
		"0", "999999", "True", "False", "N", "C 1 N", "P True", `Q 1 True N (P False)`, `R (\x -> x < 1) (\x -> \y -> 1)`, "n", "i 1", "i n", "i i 1", "k 1 2", "k True i", "k N N", "ap i 1", "add 1 2", "len N", "tw i n", "tw (add 1) 2",
		"(1 + 2)", "(n - 1)", "(2 * n)", "(1 == n)", "(1 < 2)", "(if True then 1 else 2)", "(if n < 2 then N else C 1 N)", "(case 1 of { x -> x })", "(case True of { True -> 1 ; False -> 2 })", "(case C 1 N of { C h l -> h ; _ -> 0 })", "(case C 1 N of { C h l -> l ; x -> x })",
		"(let x = 1 in x)", "(let f x = x in f 1)", "(let f x = f x + 1 in f 1)", `(\x -> x) 1`, `(\x -> \y -> x) 1 2`, `(\x -> x + 1) n`, "(case i of { f -> f 1 })", `(case (\x -> x < 1) of { f -> f 1 })`,
	}
}

// Places where what is of any type may stand, deep inside.
func placesForAny() []string {
	return []string{
		"@", "i (@)", "k 1 (@)", "k (@) 1", "k 1 (k 2 (@))", `\x -> @`, `\x -> \y -> k x (@)`, "let x = @ in 1", "let { x = 1 ; y = @ } in x", "let f x = @ in 1", "let x = 1 in @", "let f x = y where { y = @ } in 1", "let f x = 1 where { y = 2 ; g z = @ } in f",
		"case @ of { x -> 1 }", "case 1 of { x -> @ }", "case N of { N -> 1 ; C h l -> k h (@) }", "case True of { False -> 1 ; _ -> k 2 (@) }", "if True then k 1 (@) else 2", "if False then 1 else k 2 (@)", "if k True (@) then 1 else 2", "1 + k 2 (@)", "k 1 (@) < 2", `(\x -> 1) (@)`, `(\x -> @) 1`,
		"case (let f x = if x then k 1 (@) else 2 in f) of { g -> g True }",
	}
}

func TestNoTypesOfACallOfNoFunction(t *testing.T) {
	text, exps := notCalled()
	ahead := progRead(t, text)
	main := func(in, e string) impl.Prog {
		return impl.Prog{Datas: ahead.Datas, Decs: append(slices.Clip(ahead.Decs), dec("main", expOf(t, strings.ReplaceAll(in, "@", e))))}
	}
	for _, e := range exps {
		for _, in := range placesForAny() {
			// It may stand there, and be handed on; but it is not called, with one or with more.
			for _, s := range []string{e, "i (" + e + ")", "k (" + e + ") 1"} {
				if !impl.TypeOk(main(in, s)) {
					t.Errorf("%s of %s: no types", in, s)
				}
			}
			for _, s := range []string{
				e + " 1", "(" + e + ") True", e + " (" + e + ")", e + " i", e + " 1 2", "i (" + e + ") 1", "ap (" + e + ") 1", "tw (" + e + ") n", "let x = " + e + " in x 1", "case " + e + " of { x -> x 1 }", `(\x -> x 1) (` + e + ")",
			} {
				if binds, ok := impl.TypesOf(main(in, s)); ok || len(binds) != 0 || impl.TypeOk(main(in, s)) {
					t.Errorf("%s of %s: %s", in, s, bindsText(binds))
				}
			}
		}
		wantNoTypes(t,
			text+"f x = x 1\nmain = f ("+e+")", text+"f x = x 1\nmain = g ("+e+")\ng y = f y", text+"m = "+e+"\nmain = m 1", text+"m = "+e+"\nmain = o 1\no = m", text+"main = o 1 where { o = p ; p = "+e+" }", text+"main = 1\nm = f 1 where { f = "+e+" }", text+"m = if True then "+e+" else m\nmain = m m",
			text+"f x y = if True then x y else f x y\nmain = f ("+e+") 1", text+"f = let g = "+e+" in \\x -> g x",
		)
	}
	wantNoTypes(t,
		"main = 1 2", "main = 1 2 3", "main = True False", "main = main 1 + main", "f x = x + x 1", "f x = if x then x 1 else 2", "f x = case x of { True -> x 1 ; _ -> 2 }", "f x y = if x < y then y x else x", "data T = A Int | B\nf x = case x of { A n -> n 1 ; B -> 2 }", "data T = A Int | B\nf x = case x of { A n -> 1 ; y -> y 2 }", "data T = A (Int -> Int)\nf x = case x of { A g -> g 1 2 }",
		"data T = A Int\nmain = A 1 2", "data T = A\nmain = A 1", "data T = A Int Int\nmain = A 1 2 3", "data T = A (Int -> Int) T\nmain = A (\\x -> x) (A (\\x -> x)) 1",
	)
}

func TestTypeOkAsksForMain(t *testing.T) {
	for text, want := range map[string]bool{
		"main = 1": true, "main = main": true, `main = \x -> x`: true, "f = 1\nmain = f": true, "main = f where { f = 1 }": true, "main = 1 where { main = True }": true, "main = let main = 1 in main": true, "f x = x\nmain = f\ng = main": true,
		"f = 1": false, "main x = x": false, "main _ = 1": false, "main a b c d = 1": false, "f = main where { main = 1 }": false, "f = let main = 1 in main": false, "f = \\main -> main": false, "f main = main": false, "mai = 1\nmainn = 2\nmain1 = 3": false,
		"main x = y where { y = main x }\nf = g where { g = main }": false, "main x = let main = 1 in main": false,
	} {
		p := progRead(t, text)
		if _, ok := checkTypeCalls(t, text, p); !ok || impl.TypeOk(p) != want {
			t.Errorf("%q: TypeOk = %v, and types: %v", text, impl.TypeOk(p), ok)
		}
	}
	for _, text := range []string{"main = 1 2", "main = 1\nf = 1 2", "main = 1\nf x = x x", "f = if 1 then 2 else 3\nmain = 1"} {
		if impl.TypeOk(progRead(t, text)) {
			t.Errorf("%q is TypeOk", text)
		}
	}
}

func TestTypeOfNames(t *testing.T) {
	p := progRead(t, "data T = A\nf x = y x where { y z = z }\nmain = let m = 1 in m\nk a _ = a")
	for _, c := range []naming{{"f", "t0 -> t0"}, {"main", "Int"}, {"k", "t0 -> t1 -> t0"}} {
		if x, ok := impl.TypeOf(p, c.text); !ok || impl.TyText(x) != c.names {
			t.Errorf("TypeOf %q = %s, %v", c.text, told(x), ok)
		}
	}
	for _, s := range []string{"x", "y", "z", "m", "a", "_", "", "A", "T", "Int", "True", "g", "ff", "mai", "main ", "F", "let", "\xff", "f\x00", strings.Repeat("f", 100000)} {
		if x, ok := impl.TypeOf(p, s); ok || told(x) != told(impl.Ty{}) {
			t.Errorf("TypeOf %q = %s, %v", s, told(x), ok)
		}
	}
}

// Of one Dec that has no type, wherever it stands, all have none.
func TestOneDecWithoutType(t *testing.T) {
	for n := 1; n <= 12; n++ {
		l := numbered(n)
		if _, ok := checkTypeCalls(t, "numbers", impl.Prog{Decs: l}); !ok {
			t.Errorf("%d Decs: no types", n)
		}
		for at := range n {
			for _, s := range []string{"1 2", `\x -> x x`, "if 1 then 2 else 3", "let x = True + 1 in 2", "case True of { y -> 1 ; _ -> False }"} {
				l := numbered(n)
				l[at].E = expOf(t, s)
				wantNoTypesOf(t, s, impl.Prog{Decs: l})
				l[at] = with(dec(l[at].Name, num(1)), dec("w", expOf(t, s), "p"))
				wantNoTypesOf(t, s+" in a Where", impl.Prog{Decs: l})
			}
		}
	}
}

func TestNoTypesOfWhatIsNotRight(t *testing.T) {
	i := tyInt()
	one := func(e impl.Exp) impl.Prog { return shaped(e) }
	changed := func(change func(p *impl.Prog)) impl.Prog {
		p := progRead(t, "data T = A | B Int T\nf x = x where { g = 1 }\nmain = f 1")
		if !impl.TypeOk(p) {
			t.Fatal("no types")
		}
		change(&p)
		return p
	}
	for at, p := range []impl.Prog{
		{}, {Datas: shapes()}, {Decs: []impl.Dec{}}, {Decs: []impl.Dec{{}}}, one(impl.Exp{}), one(impl.Exp{K: 99}), one(impl.Exp{K: -1}), one(vr("zz")), one(vr("_")), one(vr("")), one(vr("A")), one(vr("let")), one(great("Zz")), one(great("a")), one(great("Int")), one(great("T0")), one(num(-1)), one(num(1000000)), one(num(math.MinInt)),
		one(impl.Exp{K: impl.ENum, S: "x"}), one(impl.Exp{K: impl.ENum, L: []impl.Exp{num(1)}}), one(impl.Exp{K: impl.EApp}), one(impl.Exp{K: impl.EApp, L: []impl.Exp{num(1)}}), one(impl.Exp{K: impl.EApp, L: []impl.Exp{lam("x", vr("x")), num(1), num(2)}}), one(impl.Exp{K: impl.ELam, S: "x"}), one(impl.Exp{K: impl.ELam, L: []impl.Exp{num(1)}}), one(lam("X", num(1))),
		one(impl.Exp{K: impl.ELet, L: []impl.Exp{num(1)}}), one(let(num(1), dec("a", num(1)), dec("a", num(1)))), one(caseOf(num(1))), one(caseOf(num(1), alt("", num(1)))), one(caseOf(num(1), alt("", num(1), "x", "y"))), one(caseOf(great("A"), alt("A", num(1), "x"))), one(caseOf(great("A"), alt("B", num(1)))), one(caseOf(great("A"), alt("Zz", num(1)))), one(caseOf(great("A"), alt("C", num(1), "x", "x"))),
		one(op("/", num(1), num(1))), one(op("", num(1), num(1))), one(impl.Exp{K: impl.EOp, S: "+", L: []impl.Exp{num(1)}}), one(impl.Exp{K: impl.EIf, L: []impl.Exp{great("True"), num(1)}}), one(impl.Exp{K: impl.EIf, N: 1, L: []impl.Exp{great("True"), num(1), num(1)}}), one(chain(13)), one(sized(201)), {Decs: numbered(13)},
		changed(func(p *impl.Prog) { p.Decs[0].Name = "main" }), changed(func(p *impl.Prog) { p.Decs[0].Name = "g" }), changed(func(p *impl.Prog) { p.Decs[0].Name = "F" }), changed(func(p *impl.Prog) { p.Decs[0].Pars = []string{"y"} }), changed(func(p *impl.Prog) { p.Decs[0].Pars = []string{"x", "x"} }), changed(func(p *impl.Prog) { p.Decs[0].Pars = []string{"x", "a", "b", "c", "d"} }),
		changed(func(p *impl.Prog) { p.Decs[0].Where = append(p.Decs[0].Where, dec("g", num(2))) }), changed(func(p *impl.Prog) { p.Decs[0].Where[0].E = vr("h") }), changed(func(p *impl.Prog) { p.Datas[0].Name = "Int" }), changed(func(p *impl.Prog) { p.Datas[0].Name = "U" }), changed(func(p *impl.Prog) { p.Datas[0].Cons = nil }), changed(func(p *impl.Prog) { p.Datas[0].Cons[0].Name = "B" }), changed(func(p *impl.Prog) { p.Datas[0].Cons[0].Name = "True" }),
		changed(func(p *impl.Prog) { p.Datas[0].Cons[1].Args[0] = tyVar(0) }), changed(func(p *impl.Prog) { p.Datas[0].Cons[1].Args[0] = impl.Ty{} }), changed(func(p *impl.Prog) { p.Datas[0].Cons[1].Args[0] = tyData("U") }), changed(func(p *impl.Prog) { p.Datas[0].Cons[1].Args[0] = tyFun(tyData("U"), i) }), changed(func(p *impl.Prog) { p.Datas[0].Cons[1].Args[0] = tyList(impl.TFun, i) }), changed(func(p *impl.Prog) { p.Datas[0].Cons[1].Args = make([]impl.Ty, 5) }), changed(func(p *impl.Prog) { p.Datas = slices.Repeat(p.Datas, 2) }),
	} {
		wantScope(t, "program "+strconv.Itoa(at), p, false)
		wantNoTypesOf(t, "program "+strconv.Itoa(at), p)
		if x, ok := impl.TypeOf(p, "main"); ok || told(x) != told(impl.Ty{}) {
			t.Errorf("program %d: TypeOf = %s, %v", at, told(x), ok)
		}
	}
	// What goes round by a list that stands in itself, and what is far too deep, is not right either.
	round := app(num(1), num(2))
	round.L[0] = round
	wantNoTypesOf(t, "goes round", one(round))
	wantNoTypesOf(t, "too deep", one(chain(100000)))
	types := tyFun(i, i)
	types.L[0] = types
	wantNoTypesOf(t, "a type that goes round", progOf(data("T", con("A", types))))
}

func TestTypesThatWouldStandInThemselves(t *testing.T) {
	wantNoMain(t, "k x y = x\n",
		`\x -> x x`, `\x -> \y -> x y x`, `\f -> f f`, `\x -> x (x x)`, `\f -> \x -> f (x x)`, `(\x -> x x) (\x -> x x)`, `let f x = x x in 1`, `let x = x x in 1`, `main main`, `\x -> main`, `k main (main main)`, `\x -> if True then x else \y -> x`, `\x -> if True then x else x 1`, `case 1 of { _ -> main ; _ -> \x -> main }`,
		`\x -> case x of { y -> y x }`, `\f -> \x -> if True then f x else x f`, `\x -> \y -> k (x y) (y x)`, `let { a x = b a ; b y = y b } in 1`, `\f -> \g -> k (k (f g) (g f)) 1`,
	)
	wantNoTypes(t, "f x = f", "f x y = f", "f = \\x -> f", "f x = x f", "f x = g\ng y = f", "f x = 1 where { g y = g }", "a = b a\nb x = x b")
	wantTypes(t, "f x = g x x\ng x = f", "f: t0 -> t1; g: t0 -> t0 -> t1")
	// Not in itself: behind its group it is used at another type, or it is the same.
	wantTypes(t, "i x = x\nmain = i i\nj = i (i i) i", "i: t0 -> t0; main: t0 -> t0; j: t0 -> t0")
	wantTypes(t, "k x y = x\nmain = k k k\nf x = if True then x else x", "k: t0 -> t1 -> t0; main: t0 -> t1 -> t0; f: t0 -> t0")
}

// tree has n of e in ifs, as few deep as may be.
func tree(n int, e impl.Exp) impl.Exp {
	if n == 1 {
		return e
	}
	return ifs(great("True"), tree(n/2, e), tree(n-n/2, e))
}

// asking answers Decs that ask for just n types, n at least 36: big has 15 numbers, and small one.
func asking(n int) []impl.Dec {
	big := num(0)
	for range 11 {
		big = lam("_", big)
	}
	// big, 4 Pars and 11 lambdas; small and its Par; two names that use them.
	left := n - 16 - 2 - 2
	uses := (left - 1) / 15
	return []impl.Dec{
		dec("big", big, "_", "_", "_", "_"), dec("small", vr("y"), "y"),
		dec("uses", tree(uses, vr("big"))), dec("more", tree(left-15*uses, vr("small"))),
	}
}

func wantMaxVars(t *testing.T, what string, p impl.Prog, want bool) {
	t.Helper()
	wantScope(t, what, p, true)
	if _, ok := checkTypeCalls(t, what, p); ok != want {
		t.Errorf("%s: TypesOf = %v", what, ok)
	}
}

func TestMaxVars(t *testing.T) {
	for n := 36; n <= impl.MaxVars+8; n++ {
		wantMaxVars(t, strconv.Itoa(n)+" types", impl.Prog{Decs: asking(n)}, n <= impl.MaxVars)
	}
	// How many types a text asks for: of a call, an ELam, a case, a name of a group, a Par, a number of a type that is used.
	for _, c := range []struct {
		asks int
		text string
	}{
		{1, "x = 0"}, {1, "x = True"}, {1, "x = C"}, {1, "x = N"}, {1, "x = 1 + 2"}, {1, "x = 1 - 2 * 3 == 4"}, {1, "x = if True then 1 else 2"}, {1, "x = if 1 < 2 then N else N"}, {1, "x = x"}, {1, "x = if x then x else x"},
		{2, "x = C 1"}, {3, "x = C 1 N"}, {2, "x = P True"}, {4, "x = (\\y -> y) 1 + 1\nz = 2"},
		{2, `x = \y -> y`}, {2, `x = \_ -> 0`}, {4, `x = \y -> \_ -> \_ -> y`}, {3, `x = \y -> \y -> y`},
		{2, "x = case 0 of { y -> y }"}, {2, "x = case 0 of { _ -> 1 }"}, {2, "x = case True of { True -> 0 ; False -> 1 ; y -> 2 ; _ -> 3 }"}, {3, "x = case P True of { P y -> y ; R _ _ -> True ; z -> False }"}, {2, "x = case N of { N -> 0 ; C h l -> h }"}, {3, "x = case case 0 of { y -> y } of { z -> z }"},
		{2, "x = 0\nz = x"}, {2, "x = z\nz = x"}, {4, "x = 0\ny = 1\nz = 2\nv = 3"}, {2, "x = let y = 0 in y"}, {3, "x = let { y = 0 ; z = y } in z"}, {3, "x = let { y = z ; z = y } in 0"}, {2, "x = 0 where { y = 0 }"}, {4, "x = 0 where { y = z ; z = 1 where { v = y } }"},
		{2, "x y = y"}, {2, "x _ = 0"}, {5, "x _ _ _ _ = 0"}, {5, "x a b c d = d"}, {3, "x y = z where { z = y }"}, {4, "x = 0 where { z a b = 0 }"}, {4, "x = let z a _ = 0 in 0"}, {3, "x y = x y"},
		{2, "x = small"}, {3, "x = if True then small else small"}, {16, "x = big"}, {31, "x = if True then big else big"}, {3, "x = small 0"}, {3, "x = case small of { _ -> 0 }"}, {17, "x = case big of { _ -> 0 }"}, {2, "x = case N of { _ -> 0 }"}, {4, "x = small small"},
		{3, "x = let y = 0 in y\nz = x"}, {4, "x = let z a = a in z"}, {5, "x = let z a b = 0 in 0\nv = x"}, {6, "x = let z a b = a in z"}, {5, "x = let z a = a in if True then z else z"}, {8, "x = let z a = a in z z 0 where { z = 0 }"},
		// Of a type that is used only those numbers are asked for that are others there: not what a name around it is of.
		{3, "x y = let z = y in z"}, {3, "x y = let z = y in if True then z else z"}, {5, "x y = let z a = y in z"}, {6, "x y = let z a = y in if True then z else z"}, {4, "x y = let z _ = y in y"}, {4, `x = \y -> let z = y in let v = z in v`},
		// Within its group a name is of one type: none is asked for.
		{2, "x y = if True then y else y"}, {4, "x y = z where { z = if True then z else z }"}, {4, "x y = z y\nz = x"},
	} {
		p := progRead(t, makings+c.text)
		for over := -1; over <= 1; over++ {
			all := impl.Prog{Datas: p.Datas, Decs: append(asking(impl.MaxVars-c.asks+over), p.Decs...)}
			wantMaxVars(t, c.text+", "+strconv.Itoa(over)+" over", all, over <= 0)
			slices.Reverse(all.Decs)
			wantMaxVars(t, c.text+", ahead, "+strconv.Itoa(over)+" over", all, over <= 0)
		}
	}
}

func partsByHand(t impl.Ty) int {
	n := 1
	for _, part := range t.L {
		n += partsByHand(part)
	}
	return n
}

// ofParts answers Decs of which the last is of a type of just n parts. As each type is a leaf or made of two, n is odd.
func ofParts(n int) []impl.Dec {
	if n == 1 {
		return decs(dec("s1", num(0)))
	}
	pars := []string{"x"}
	half := (n - 1) / 2
	if half%2 == 0 {
		pars = []string{"_", "x"}
		half--
	}
	l := ofParts(half)
	return append(l, dec("s"+strconv.Itoa(n), sameAs("x", l[len(l)-1].Name), pars...))
}

// sameAs answers what makes both names be of one type.
func sameAs(a, b string) impl.Exp { return ifs(great("True"), vr(a), vr(b)) }

func TestTypesOfManyParts(t *testing.T) {
	for n := 1; n <= 3011; n += 2 {
		if n > 99 && n < 2989 {
			continue
		}
		l := ofParts(n)
		binds, ok := checkTypeCalls(t, strconv.Itoa(n)+" parts", impl.Prog{Decs: l})
		if ok != (n <= 3000) || ok && partsByHand(binds[len(l)-1].T) != n {
			t.Errorf("%d parts: TypesOf = %v", n, ok)
		}
	}
	wantNoTypesOf(t, "5999 parts", impl.Prog{Decs: ofParts(5999)})
}

// Each type that is asked for is of at most 3000 parts, though no name of a Dec be of it.
func TestEachTypeThatIsAskedForOfManyParts(t *testing.T) {
	// What is of 2 * 1497 + 1 parts, and of 2 more by each lambda.
	large := func(more int) impl.Exp {
		e := lam("x", sameAs("x", "s1497"))
		for range more {
			e = lam("_", e)
		}
		return e
	}
	aside := func(e impl.Exp) impl.Exp { return caseOf(e, alt("", num(0), "_")) }
	for _, c := range []struct {
		what  string
		parts int
		main  func(e impl.Exp) impl.Exp
	}{
		{"a number of a type that is used", 0, func(e impl.Exp) impl.Exp { return app(vr("k"), e) }},
		{"what is made of a call", 0, func(e impl.Exp) impl.Exp { return aside(app(lam("_", e), num(0))) }},
		{"a lambda's name", 0, func(e impl.Exp) impl.Exp { return app(lam("y", num(0)), e) }},
		{"a lambda's `_`", 0, func(e impl.Exp) impl.Exp { return app(lam("_", num(0)), e) }},
		{"a case", 0, func(e impl.Exp) impl.Exp { return aside(caseOf(num(0), alt("", e, "_"))) }},
		{"a name of a let", 0, func(e impl.Exp) impl.Exp { return let(num(0), dec("z", e)) }},
		{"a name of a Where", 2, func(e impl.Exp) impl.Exp {
			return let(num(0), with(dec("z", num(0), "_"), dec("v", e, "_")))
		}},
		{"a name of a group of two", 0, func(e impl.Exp) impl.Exp {
			return let(num(0), dec("z", vr("v")), dec("v", ifs(great("True"), e, vr("z"))))
		}},
		{"a Par, and the name that it is one of", 2, func(e impl.Exp) impl.Exp {
			return let(num(0), dec("z", aside(ifs(great("True"), vr("p"), e)), "p"))
		}},
	} {
		for more := range 6 {
			p := impl.Prog{Decs: append(ofParts(1497), dec("k", num(0), "_"), dec("main", c.main(large(more))))}
			if _, ok := checkTypeCalls(t, c.what, p); ok != (2995+2*more+c.parts <= 3000) {
				t.Errorf("%s, %d parts: TypesOf = %v", c.what, 2995+2*more+c.parts, ok)
			}
		}
	}
	// What is not asked for may be of more: what a case looks at, and the whole of a type that is used.
	for what, l := range map[string][]impl.Dec{
		"what a case looks at": append(ofParts(1497), dec("main", aside(large(4)))),
		"what an if is of":     append(ofParts(1497), dec("main", aside(ifs(great("True"), large(4), large(4))))),
		"what a let is of":     append(ofParts(1497), dec("main", aside(let(large(4), dec("z", num(0)))))),
		"what is used":         append(ofParts(2999), dec("main", let(aside(app(vr("i"), vr("s2999"))), dec("i", vr("x"), "x")))),
		"what is called":       append(ofParts(2999), dec("main", aside(app(lam("x", vr("x")), vr("s2999"))))),
	} {
		if _, ok := checkTypeCalls(t, what, impl.Prog{Decs: l}); !ok {
			t.Errorf("%s: no types", what)
		}
	}
}

// Types that grow by each name, or by each call, to more than there is room for are refused, and soon.
func TestTypesThatGrowAndGrow(t *testing.T) {
	const twice = "a x = \\f -> f x x\n"
	nested := func(n int, s string) string { return strings.Repeat(s+" (", n) + "0" + strings.Repeat(")", n) }
	wantTypes(t, twice+"main = a (a 0)", "a: t0 -> (t0 -> t0 -> t1) -> t1; main: (((Int -> Int -> t0) -> t0) -> ((Int -> Int -> t0) -> t0) -> t1) -> t1")
	for n := 1; n <= 11; n++ {
		p := progRead(t, twice+"main = "+nested(n, "a"))
		binds, ok := checkTypeCalls(t, nested(n, "a"), p)
		// Each makes 2 parts and 5 more of 1.
		parts := 1
		for range n {
			parts = 2*parts + 5
		}
		if ok != (parts <= 3000) || ok && partsByHand(binds[1].T) != parts {
			t.Errorf("%s: TypesOf = %v, of %d parts", nested(n, "a"), ok, parts)
		}
	}
	names := []string{"a", "b", "c", "d", "e", "g", "h", "i", "j", "k", "l"}
	text := twice
	for i, s := range names[1:] {
		text += s + " x = " + names[i] + " (" + names[i] + " x)\n"
		_, ok := impl.TypesOf(progRead(t, text))
		if ok != (i < 3) {
			t.Errorf("%q: TypesOf = %v", text, ok)
		}
		wantNoTypes(t, text+"main = "+nested(9, s), text+"main = case "+nested(9, s)+" of { _ -> 0 }", text+"main = let y = "+nested(8, s)+" in 0")
	}
	wantNoTypes(t,
		"f x = a (a (a (a (a (a (a (a (a (a x))))))))) where { a x = b (b (b (b x))) ; b x = c (c (c (c x))) ; c x = d (d (d x)) ; d x = \\f -> f x x }",
		"main = (\\x -> \\y -> \\z -> 0) 1 2 (g (g (g (g (g (g (g (g 0))))))))\ng x y = y (x x) (x (x y)) x",
	)
}

// inferAnswers are all that is answered of a program.
type inferAnswers struct {
	Types []impl.Bind
	Ok    bool
	Each  []impl.Ty
}

func askInfer(p impl.Prog) (a inferAnswers) {
	a.Types, a.Ok = impl.TypesOf(p)
	impl.TypeOk(p)
	for _, d := range p.Decs {
		x, _ := impl.TypeOf(p, d.Name)
		a.Each = append(a.Each, x)
	}
	return a
}

func TestInferredTypesAreNewMemory(t *testing.T) {
	texts := []string{
		"main = 1", "i x = x\nj = i\nk = i i\nmain = j (k 1)", "f x y = f y x\ng x = h x\nh x = g x\nl = let { a x = a x ; b = a } in b", makings + "a = C\nb = Q\nc = R\nd = R (\\x -> x < 1)\ne x = case x of { R f g -> g ; _ -> e x }\nf x = case x of { R f g -> f ; _ -> f x }",
		makings + "a x = \\f -> f x x\nb = a (a (a R))\nc = if True then b else b\nd x = if True then x else c", "main = 1 2", "f x = x x", "main = zz",
	}
	for _, s := range texts {
		base := progRead(t, s)
		sharesNothing(t, s+", as it comes", reflect.ValueOf(askInfer(base)))
		want := told(askInfer(base))
		p := roomy(reflect.ValueOf(base)).Interface().(impl.Prog)
		kept := toldWithRoom(reflect.ValueOf(p))
		for range 3 {
			got := askInfer(p)
			if told(got) != want {
				t.Errorf("%q: an answer hangs on the room behind, or was kept: %s; want %s", s, told(got), want)
			}
			sharesNothing(t, s, reflect.ValueOf(struct {
				Asked    impl.Prog
				Answered inferAnswers
			}{p, got}))
			spoilAll(reflect.ValueOf(&got.Types).Elem())
			spoilAll(reflect.ValueOf(&got.Each).Elem())
		}
		if toldWithRoom(reflect.ValueOf(p)) != kept {
			t.Errorf("%q was written into", s)
		}
	}
}

// Lists that stand at several places of an argument are read there, and stand at none of the answer.
func TestTypesOfSharedLists(t *testing.T) {
	arrow := tyFun(tyInt(), tyInt())
	args := []impl.Ty{arrow, arrow}
	half := app(great("A"), lam("x", vr("x")))
	p := impl.Prog{
		Datas: []impl.Data{data("T", con("A", args...), con("B", args[:1]...))},
		Decs:  decs(dec("a", half), dec("b", half), dec("c", great("A")), dec("d", great("B")), dec("e", ifs(great("True"), vr("c"), great("A")))),
	}
	binds, ok := checkTypeCalls(t, "shared", p)
	if got := bindsText(binds); !ok || got != "a: (Int -> Int) -> T; b: (Int -> Int) -> T; c: (Int -> Int) -> (Int -> Int) -> T; d: (Int -> Int) -> T; e: (Int -> Int) -> (Int -> Int) -> T" {
		t.Errorf("TypesOf = %s, %v", got, ok)
	}
	sharesNothing(t, "shared", reflect.ValueOf(binds))
	spoilAll(reflect.ValueOf(&binds).Elem())
	if told(arrow) != told(tyFun(tyInt(), tyInt())) {
		t.Error("an answer shares a list with the program")
	}
}

// What was answered of one program is nothing to another.
func TestNothingIsKeptOfInferredTypes(t *testing.T) {
	for range 3 {
		wantTypes(t, "f x = x\nmain = f 1", "f: t0 -> t0; main: Int")
		wantNoTypes(t, "f x = x 1\nmain = f 1")
		wantTypes(t, "f x = x + 1\nmain = f", "f: Int -> Int; main: Int -> Int")
		wantNoTypes(t, "f x = x x\nmain = f")
		wantTypes(t, "data T = A\nmain = A", "main: T")
		wantTypes(t, "data U = A Int\nmain = A", "main: Int -> U")
	}
}
