package tests

import (
	"reflect"
	"slices"
	"strconv"
	"strings"
	"testing"

	"loop.example/g00471/impl"
)

// A said is a text, a name, and the text that comes of it.
type said struct{ text, name, want string }

func wantSaid(t *testing.T, s saying, l ...said) {
	t.Helper()
	for _, c := range l {
		p, want := progRead(t, c.text), progRead(t, c.want)
		if got, code := s.turn(p, c.name); code != impl.ToGood || told(got) != told(want) || impl.ProgText(got) != impl.ProgText(want) {
			t.Errorf("%s of %s in %q = %q, %d; want %q", s.what, c.name, c.text, impl.ProgText(got), code, c.want)
			continue
		}
		checkSaid(t, p, c.name, s, someFuels(), newSayingCount())
	}
}

// wantRefusedSaying: the code, and the program as it is.
func wantRefusedSaying(t *testing.T, what string, s saying, p impl.Prog, name string, code int) {
	t.Helper()
	got, is := s.turn(p, name)
	if is != code || told(got) != told(p) {
		t.Errorf("%s: %s of %q = %d, the same program: %v; want %d", what, s.what, name, is, told(got) == told(p), code)
	}
}

// wantThereAndBack: what is said behind in the first text is said ahead in the second one, and the other way about.
func wantThereAndBack(t *testing.T, name string, l ...naming) {
	t.Helper()
	for _, c := range l {
		wantSaid(t, whereToLet, said{c.text, name, c.names})
		wantSaid(t, letToWhere, said{c.names, name, c.text})
	}
}

func TestWhereAndLetOfOrdinaryDecs(t *testing.T) {
	wantThereAndBack(t, "f",
		// Of one Dec and of several, with Pars and without.
		naming{"f x = a where { a = x }\nmain = f 1", "f x = let { a = x } in a\nmain = f 1"}, naming{"f x = a + b where { a = x ; b = a }\nmain = f 1", "f x = let { a = x ; b = a } in a + b\nmain = f 1"}, naming{"f = a where { a = 1 }\nmain = f", "f = let { a = 1 } in a\nmain = f"}, naming{"f = b where { a = 1 ; b = a ; c = 3 }\nmain = f", "f = let { a = 1 ; b = a ; c = 3 } in b\nmain = f"},
		naming{"f x y z w = a + c where { a = x + y ; c = z - w }\nmain = f 1 2 3 4", "f x y z w = let { a = x + y ; c = z - w } in a + c\nmain = f 1 2 3 4"}, naming{"f x = 1 where { a = x }\nmain = f 2", "f x = let { a = x } in 1\nmain = f 2"}, naming{"f = 1 where { a = a }\nmain = f", "f = let { a = a } in 1\nmain = f"},
		naming{"f = e where { a = 1 ; b = a ; c = b ; d = c ; e = d ; g = e }\nmain = f", "f = let { a = 1 ; b = a ; c = b ; d = c ; e = d ; g = e } in e\nmain = f"},
		// Decs that have Wheres and Pars of their own, and that need each other.
		naming{"f x = a 2 where { a y = b + y where { b = x } }\nmain = f 1", "f x = let { a y = b + y where { b = x } } in a 2\nmain = f 1"}, naming{"f x = a x where { a y = if y < 1 then 0 else b (y - 1) ; b y = a y + x }\nmain = f 5", "f x = let { a y = if y < 1 then 0 else b (y - 1) ; b y = a y + x } in a x\nmain = f 5"}, naming{"f = a 1 2 where { a _ y = b where { b = c where { c = y } } }\nmain = f", "f = let { a _ y = b where { b = c where { c = y } } } in a 1 2\nmain = f"},
		naming{"f = a where { a = let { b = 1 } in b }\nmain = f", "f = let { a = let { b = 1 } in b } in a\nmain = f"}, naming{"f = a b where { a x = x ; b = a 1 }\nmain = f", "f = let { a x = x ; b = a 1 } in a b\nmain = f"},
		// Of a body of each kind, one that is a let among them: that stays as it is.
		naming{"f x = let { b = a } in b where { a = x }\nmain = f 1", "f x = let { a = x } in let { b = a } in b\nmain = f 1"}, naming{"f = let { b = a } in let { c = b } in c where { a = 1 }\nmain = f", "f = let { a = 1 } in let { b = a } in let { c = b } in c\nmain = f"},
		naming{`f x = \y -> a + y where { a = x }` + "\nmain = f 1 2", `f x = let { a = x } in \y -> a + y` + "\nmain = f 1 2"}, naming{"f x = case a of { True -> 1 ; _ -> 2 } where { a = x == 1 }\nmain = f 1", "f x = let { a = x == 1 } in case a of { True -> 1 ; _ -> 2 }\nmain = f 1"}, naming{"f x = if a then 1 else 2 where { a = x < 1 }\nmain = f 1", "f x = let { a = x < 1 } in if a then 1 else 2\nmain = f 1"},
		naming{"f x = a x where { a y = y }\nmain = f 1", "f x = let { a y = y } in a x\nmain = f 1"}, naming{"f = True where { a = 1 }\nmain = f", "f = let { a = 1 } in True\nmain = f"}, naming{"f = 7 where { a = 1 }\nmain = f", "f = let { a = 1 } in 7\nmain = f"},
		// The first one, a middle one and the last one of the Decs; the others stay, as Datas do.
		naming{"data T = A Int | B\ng = b where { b = 1 }\nf = a where { a = g }\nh x = let { c = x } in c\nmain = h f", "data T = A Int | B\ng = b where { b = 1 }\nf = let { a = g } in a\nh x = let { c = x } in c\nmain = h f"}, naming{"main = f 1\nf x = a where { a = x }", "main = f 1\nf x = let { a = x } in a"}, naming{"f x = a where { a = f x }\nmain = 1", "f x = let { a = f x } in a\nmain = 1"}, naming{"f x = a where { a = h x }\nh y = f y\nmain = h", "f x = let { a = h x } in a\nh y = f y\nmain = h"},
		naming{"data L = N | C Int L\nf n = C n a where { a = f (n + 1) }\nmain = f 1", "data L = N | C Int L\nf n = let { a = f (n + 1) } in C n a\nmain = f 1"},
		// What is of any type that fits stays so.
		naming{"f = a a where { a x = x }\nmain = f f 1", "f = let { a x = x } in a a\nmain = f f 1"}, naming{"f x = k x (k 1 True) where { k a b = a }\nmain = f (f 2)", "f x = let { k a b = a } in k x (k 1 True)\nmain = f (f 2)"},
	)
}

func TestToLamOfOrdinaryDecs(t *testing.T) {
	wantSaid(t, toLam,
		// One Par, and several: from the first on.
		said{"f x = x\nmain = f 1", "f", `f = \x -> x` + "\nmain = f 1"}, said{"f x y = x - y\nmain = f 1 2", "f", `f = \x -> \y -> x - y` + "\nmain = f 1 2"}, said{"f y x = x - y\nmain = f 1 2", "f", `f = \y -> \x -> x - y` + "\nmain = f 1 2"}, said{"f a b c d = a - b - c - d\nmain = f 1 2 3 4", "f", `f = \a -> \b -> \c -> \d -> a - b - c - d` + "\nmain = f 1 2 3 4"}, said{"f x y z = z x y\nmain = 1", "f", `f = \x -> \y -> \z -> z x y` + "\nmain = 1"},
		// With a Where.
		said{"f x = a where { a = x }\nmain = f 1", "f", `f = \x -> let { a = x } in a` + "\nmain = f 1"}, said{"f x y = a + b where { a = x ; b = y }\nmain = f 1 2", "f", `f = \x -> \y -> let { a = x ; b = y } in a + b` + "\nmain = f 1 2"}, said{"f x = a 2 where { a y = b + y where { b = x } ; c _ = a }\nmain = f 1", "f", `f = \x -> let { a y = b + y where { b = x } ; c _ = a } in a 2` + "\nmain = f 1"}, said{"f x = a x where { a y = if y < 1 then 0 else b (y - 1) ; b y = a y + x }\nmain = f 5", "f", `f = \x -> let { a y = if y < 1 then 0 else b (y - 1) ; b y = a y + x } in a x` + "\nmain = f 5"},
		// Of a body that is a lambda, a let, with a Where and without, and of any other kind.
		said{`f x = \y -> x - y` + "\nmain = f 1 2", "f", `f = \x -> \y -> x - y` + "\nmain = f 1 2"}, said{`f x y = \z -> a + z where { a = x - y }` + "\nmain = f 1 2 3", "f", `f = \x -> \y -> let { a = x - y } in \z -> a + z` + "\nmain = f 1 2 3"}, said{"f x = let { a = x } in a\nmain = f 1", "f", `f = \x -> let { a = x } in a` + "\nmain = f 1"}, said{"f x = let { b = a } in b where { a = x }\nmain = f 1", "f", `f = \x -> let { a = x } in let { b = a } in b` + "\nmain = f 1"},
		said{"f x = case x of { True -> 1 ; y -> 2 }\nmain = f True", "f", `f = \x -> case x of { True -> 1 ; y -> 2 }` + "\nmain = f True"}, said{"f x = if x then 1 else 2\nmain = f True", "f", `f = \x -> if x then 1 else 2` + "\nmain = f True"}, said{"f x = x == 1\nmain = f 1", "f", `f = \x -> x == 1` + "\nmain = f 1"}, said{"f x = x 1\nmain = f", "f", `f = \x -> x 1` + "\nmain = f"}, said{"f x = True\nmain = f", "f", `f = \x -> True` + "\nmain = f"}, said{"f x = 7\nmain = f", "f", `f = \x -> 7` + "\nmain = f"}, said{"f x = g\ng = 1\nmain = f", "f", `f = \x -> g` + "\ng = 1\nmain = f"},
		// In itself, and in others that need it; the others stay, as Datas do, and all are of the types that they were of.
		said{"f n = if n < 1 then 0 else n + f (n - 1)\nmain = f 10", "f", `f = \n -> if n < 1 then 0 else n + f (n - 1)` + "\nmain = f 10"}, said{"main = f 1\nf x = g x\ng y = f y", "f", "main = f 1\n" + `f = \x -> g x` + "\ng y = f y"}, said{"main = f 1\nf x = g x\ng y = f y", "g", "main = f 1\nf x = g x\n" + `g = \y -> f y`}, said{"i x = x\nmain = i i (i 1)", "i", `i = \x -> x` + "\nmain = i i (i 1)"}, said{"data L = N | C Int L\nk x y = x\nf n = C n (f (n + 1))\nmain = k (f 1) N", "f", "data L = N | C Int L\nk x y = x\n" + `f = \n -> C n (f (n + 1))` + "\nmain = k (f 1) N"},
	)
}

func TestSayingsOfMain(t *testing.T) {
	wantThereAndBack(t, "main", naming{"main = a where { a = 1 }", "main = let { a = 1 } in a"}, naming{"f x = a where { a = x }\nmain = b + c where { b = f 1 ; c = b }", "f x = a where { a = x }\nmain = let { b = f 1 ; c = b } in b + c"}, naming{"main = main where { a = main }", "main = let { a = main } in main"}, naming{"main = main where { main = 1 }", "main = let { main = 1 } in main"}, naming{"main = a where { a = a }", "main = let { a = a } in a"})
	for _, s := range []string{"main = 1", "main = main", "main = a where { a = 1 }", "main = let { a = 1 } in a", `main = \x -> x`} {
		wantRefusedSaying(t, s, toLam, progRead(t, s), "main", impl.ToNot)
	}
}

// Names that are alike: the Where binds them further in than the Pars do, and so does the let.
func TestWhereToLetOfNamesThatAreAlike(t *testing.T) {
	wantSaid(t, whereToLet,
		said{"f x = x where { x = 1 }\nmain = f 2", "f", "f x = let { x = 1 } in x\nmain = f 2"}, said{"f x y = x - y where { y = 3 }\nmain = f 1 2", "f", "f x y = let { y = 3 } in x - y\nmain = f 1 2"}, said{"f x y = x - y where { y = 3 ; x = y + y }\nmain = f 1 2", "f", "f x y = let { y = 3 ; x = y + y } in x - y\nmain = f 1 2"}, said{"f x = x where { x = x }\nmain = f 1", "f", "f x = let { x = x } in x\nmain = f 1"}, said{"f x = x 1 where { x x = x }\nmain = f 2", "f", "f x = let { x x = x } in x 1\nmain = f 2"},
	)
	wantSaid(t, toLam,
		said{"f x = x where { x = 1 }\nmain = f 2", "f", `f = \x -> let { x = 1 } in x` + "\nmain = f 2"}, said{"f x y = x - y where { y = 3 ; x = y + y }\nmain = f 1 2", "f", `f = \x -> \y -> let { y = 3 ; x = y + y } in x - y` + "\nmain = f 1 2"}, said{"f x = let { x = 1 } in x\nmain = f 2", "f", `f = \x -> let { x = 1 } in x` + "\nmain = f 2"}, said{`f x = \x -> x` + "\nmain = f 1 2", "f", `f = \x -> \x -> x` + "\nmain = f 1 2"}, said{"f x = case x of { x -> x }\nmain = f 2", "f", `f = \x -> case x of { x -> x }` + "\nmain = f 2"},
		// `_`, once and more often.
		said{"f _ = 1\nmain = f 2", "f", `f = \_ -> 1` + "\nmain = f 2"}, said{"f _ _ = 1\nmain = f 2 3", "f", `f = \_ -> \_ -> 1` + "\nmain = f 2 3"}, said{"f _ x _ y = x - y\nmain = f 1 2 3 4", "f", `f = \_ -> \x -> \_ -> \y -> x - y` + "\nmain = f 1 2 3 4"}, said{"f _ _ = a where { a = 1 }\nmain = f 2 3", "f", `f = \_ -> \_ -> let { a = 1 } in a` + "\nmain = f 2 3"}, said{"f _ _ _ _ = 1\nmain = f", "f", `f = \_ -> \_ -> \_ -> \_ -> 1` + "\nmain = f"},
		// A Par of the name of the Dec itself, or of another one.
		said{"f f = f\nmain = f 1", "f", `f = \f -> f` + "\nmain = f 1"}, said{"f x f = x - f where { a = f }\nmain = f 2 1", "f", `f = \x -> \f -> let { a = f } in x - f` + "\nmain = f 2 1"}, said{"f g = g\ng = 1\nmain = f 2 + g", "f", `f = \g -> g` + "\ng = 1\nmain = f 2 + g"}, said{"f main g = main - g\ng = 1\nmain = f 2 g", "f", `f = \main -> \g -> main - g` + "\ng = 1\nmain = f 2 g"},
		// A name of the Where that is the Dec's own, or another one's.
		said{"f x = f + x where { f = x }\nmain = f 1", "f", `f = \x -> let { f = x } in f + x` + "\nmain = f 1"}, said{"f x = g where { g = h ; h = x }\ng = 1\nh = 2\nmain = f 3", "f", `f = \x -> let { g = h ; h = x } in g` + "\ng = 1\nh = 2\nmain = f 3"},
	)
}

// Names that are alike, but none of them a Par and a name of the Decs: there and back all is as it was.
func TestThereAndBackOfNamesThatAreAlike(t *testing.T) {
	wantThereAndBack(t, "f",
		naming{"f _ = a where { a = 1 }\nmain = f 2", "f _ = let { a = 1 } in a\nmain = f 2"}, naming{"f _ _ = a where { a = 1 }\nmain = f 2 3", "f _ _ = let { a = 1 } in a\nmain = f 2 3"}, naming{"f _ x _ = a x where { a _ = x }\nmain = f 1 2 3", "f _ x _ = let { a _ = x } in a x\nmain = f 1 2 3"},
		// A Par, or a name of the Decs, that is the Dec's own or another one's.
		naming{"f f = a where { a = f }\nmain = f 1", "f f = let { a = f } in a\nmain = f 1"}, naming{"f g = a where { a = g }\ng = 1\nmain = f 2 + g", "f g = let { a = g } in a\ng = 1\nmain = f 2 + g"}, naming{"f x = f where { f = x }\nmain = f 1", "f x = let { f = x } in f\nmain = f 1"}, naming{"f = f where { f = 1 }\nmain = f", "f = let { f = 1 } in f\nmain = f"}, naming{"f x = g + h where { g = x ; h = g }\ng = 1\nh = 2\nmain = f 3", "f x = let { g = x ; h = g } in g + h\ng = 1\nh = 2\nmain = f 3"}, naming{"f x = main where { main = x }\nmain = f 1", "f x = let { main = x } in main\nmain = f 1"},
		// Pars and names deeper in, that are like those around.
		naming{"f x = a x where { a x = x }\nmain = f 1", "f x = let { a x = x } in a x\nmain = f 1"}, naming{"f x = a where { a = x where { x = 1 } }\nmain = f 2", "f x = let { a = x where { x = 1 } } in a\nmain = f 2"}, naming{"f x = a where { a = let { x = 1 } in x }\nmain = f 2", "f x = let { a = let { x = 1 } in x } in a\nmain = f 2"}, naming{"f x = let { x = a } in x where { a = x }\nmain = f 2", "f x = let { a = x } in let { x = a } in x\nmain = f 2"}, naming{`f x = \x -> a + x where { a = x }` + "\nmain = f 1 2", `f x = let { a = x } in \x -> a + x` + "\nmain = f 1 2"}, naming{"f x = case a of { x -> x + a } where { a = x }\nmain = f 2", "f x = let { a = x } in case a of { x -> x + a }\nmain = f 2"}, naming{"f x = a 1 where { a a = a }\nmain = f 2", "f x = let { a a = a } in a 1\nmain = f 2"}, naming{"f = let { a = b } in a where { a = 1 ; b = a }\nmain = f", "f = let { a = 1 ; b = a } in let { a = b } in a\nmain = f"},
		naming{"f x = a where { a = a where { a = x } }\nmain = f 2", "f x = let { a = a where { a = x } } in a\nmain = f 2"},
	)
}

// A name of the let's Decs that is one of the Pars: the first, a middle and the last one of each, one or several.
func TestLetToWhereOfANameThatIsTaken(t *testing.T) {
	all := []string{"a", "b", "c", "d"}
	for many := 1; many <= 4; many++ {
		for bound := 1; bound <= 6; bound++ {
			for i := range many {
				for j := range bound {
					l := numbered(bound)
					l[j].Name = all[i]
					p := impl.Prog{Decs: decs(dec("f", let(num(1), l...), all[:many]...), dec("main", num(1)))}
					what := strconv.Itoa(many) + " Pars, " + strconv.Itoa(bound) + " Decs, alike at " + strconv.Itoa(i) + " and " + strconv.Itoa(j)
					wantRefusedSaying(t, what, letToWhere, p, "f", impl.ToTaken)
					checkSaid(t, p, "f", letToWhere, nil, newSayingCount())
					checkSaid(t, p, "f", toLam, someFuels(), newSayingCount())
					// One that is none of the Pars, beside it a like one in another Dec.
					l[j].Name = "e"
					p.Decs = append(p.Decs, dec("g", num(1), "e"))
					if code := checkSaid(t, p, "f", letToWhere, someFuels(), newSayingCount()); code != impl.ToGood {
						t.Errorf("%s no more: %d", what, code)
					}
				}
			}
		}
	}
	for _, s := range []string{"f x = let { x = 1 } in x", "f x = let { x = x } in 1", "f x = let { x x = x } in x 1", "f x = let { a = 1 ; x = a } in x", "f x y = let { y = 1 ; x = y } in x", "f _ x _ = let { a = 1 ; x = a } in a", "f f = let { f = 1 } in f", "f g = let { g = 1 } in g", "f main = let { main = 1 } in main", "f x = let { x = 1 } in let { y = x } in y"} {
		p := progRead(t, s+"\ng = 1\nmain = 2")
		wantRefusedSaying(t, s, letToWhere, p, "f", impl.ToTaken)
		if q, code := impl.WhereToLet(p, "f"); code != impl.ToNot || !impl.SameProg(q, p) {
			t.Errorf("%q: WhereToLet = %d", s, code)
		}
	}
}

func TestSayingsOfWhatIsNotTypeOk(t *testing.T) {
	for i, p := range manyWrong(t) {
		what := "program " + strconv.Itoa(i)
		for _, s := range sayings() {
			for _, name := range []string{"f", "main", "none", "", "A", "_"} {
				wantRefusedSaying(t, what, s, p, name, impl.ToForm)
			}
		}
	}
	// Ahead of all other codes, that it is not TypeOk counts, and only there.
	for _, text := range []string{"f x = let { x = 1 } in x", "f x = let { a = x } in a", "f x = a where { a = x }"} {
		for _, wrong := range []string{"", "main x = 1", "main = 1 2", "main = none", "main = A"} {
			for _, s := range sayings() {
				for _, name := range []string{"f", "x", "none", "main"} {
					wantRefusedSaying(t, wrong, s, progRead(t, text+"\n"+wrong), name, impl.ToForm)
				}
			}
		}
		checkSaid(t, progRead(t, text+"\nmain = 1"), "f", letToWhere, someFuels(), newSayingCount())
	}
}

const sayingGiven = "data T = A Int | B\nf x _ = w + x\n  where\n    w = v x\n    v y = y\nh p = let l q = q in case A p of\n    A c -> (\\m -> l m) c\n    o -> 7\ng x z = let x = z in x\nk = 1\nmain = f (h 1) (g k)"

func TestSayingsOfNoDec(t *testing.T) {
	p := progRead(t, sayingGiven)
	// Bound only within, of no Dec, great names, and what is no name.
	for _, name := range append(noNames(), "w", "v", "x", "y", "p", "q", "l", "c", "m", "o", "z", "none", "T", "B", "True", "Int", "F", "Main", "ff", "f ", "mai") {
		for _, s := range sayings() {
			wantRefusedSaying(t, "no Dec", s, p, name, impl.ToNone)
		}
	}
}

func TestSayingsOfWhatIsNotToBeTurned(t *testing.T) {
	p := progRead(t, sayingGiven)
	for _, c := range []struct {
		name  string
		codes []int
	}{
		{"f", []int{impl.ToGood, impl.ToNot, impl.ToGood}}, {"h", []int{impl.ToNot, impl.ToGood, impl.ToGood}}, {"g", []int{impl.ToNot, impl.ToTaken, impl.ToGood}}, {"k", []int{impl.ToNot, impl.ToNot, impl.ToNot}}, {"main", []int{impl.ToNot, impl.ToNot, impl.ToNot}},
	} {
		for i, s := range sayings() {
			if code := checkSaid(t, p, c.name, s, someFuels(), newSayingCount()); code != c.codes[i] {
				t.Errorf("%s of %s = %d; want %d", s.what, c.name, code, c.codes[i])
			}
		}
	}
	// What is no let: one within it, at whatever place, is none of the Dec; nor are Pars, Wheres and lambdas of what is within.
	for _, s := range []string{
		"1", "x", "main", "True", `\a -> let { b = 1 } in b`, "i (let { b = 1 } in b)", "(let { b x = x } in b) 1", "case let { b = 1 } in b of { _ -> 1 }", "case 1 of { _ -> let { b = 1 } in b }", "if True then let { b = 1 } in b else 2", "(let { b = 1 } in b) + 1", "1 + (let { b x = c where { c = 1 } } in b 1)",
	} {
		p := progRead(t, "f x = "+s+"\ni x = x\nmain = 1")
		wantRefusedSaying(t, s, whereToLet, p, "f", impl.ToNot)
		wantRefusedSaying(t, s, letToWhere, p, "f", impl.ToNot)
		p = progRead(t, "x = 1\nf = "+s+"\ni x = x\nmain = 1")
		wantRefusedSaying(t, s, toLam, p, "f", impl.ToNot)
		wantRefusedSaying(t, s, letToWhere, p, "f", impl.ToNot)
		wantRefusedSaying(t, s, whereToLet, p, "f", impl.ToNot)
	}
	// A Where is there already: ahead of a name that is taken, whatever the body is.
	for _, s := range []string{"f x = let { x = 1 } in x where { a = 1 }", "f x = let { a = 1 } in a where { x = 1 }", "f x = let { b = 1 } in b where { a = 1 }", "f = let { b = 1 } in b where { a = 1 }", "f x = x where { a = let { x = 1 } in x }"} {
		p := progRead(t, s+"\nmain = 1")
		wantRefusedSaying(t, s, letToWhere, p, "f", impl.ToNot)
		if code := checkSaid(t, p, "f", whereToLet, someFuels(), newSayingCount()); code != impl.ToGood {
			t.Errorf("WhereToLet in %q = %d", s, code)
		}
	}
	// Empty lists are none.
	empty := impl.Dec{Name: "f", Pars: []string{}, E: num(1), Where: []impl.Dec{}}
	for _, s := range sayings() {
		wantRefusedSaying(t, "empty lists", s, impl.Prog{Datas: []impl.Data{}, Decs: decs(empty, dec("main", num(1)))}, "f", impl.ToNot)
	}
	empty.E = let(num(1), dec("a", num(2)))
	if code := checkSaid(t, impl.Prog{Decs: decs(empty, dec("main", num(1)))}, "f", letToWhere, someFuels(), newSayingCount()); code != impl.ToGood {
		t.Error("an empty Where: LetToWhere =", code)
	}
}

// A sayingShape puts an Exp into a Dec f, and tells how much larger, and how much deeper there, each way makes it; noSaying,
// where there is nothing to be turned. In one of them a name is taken.
type sayingShape struct {
	what        string
	of          func(e impl.Exp) impl.Dec
	large, deep [3]int
	taken       bool
}

const noSaying = -1

func sayingShapes() []sayingShape {
	w := dec("w", num(1))
	return []sayingShape{
		{"one Par", func(e impl.Exp) impl.Dec { return dec("f", e, "x") }, [3]int{noSaying, noSaying, 1}, [3]int{0, 0, 1}, false},
		{"four Pars", func(e impl.Exp) impl.Dec { return dec("f", e, "x", "_", "y", "_") }, [3]int{noSaying, noSaying, 4}, [3]int{0, 0, 4}, false},
		{"a body with a Where", func(e impl.Exp) impl.Dec { return with(dec("f", e), w) }, [3]int{1, noSaying, noSaying}, [3]int{1, 0, 0}, false},
		{"a body with a Where and Pars", func(e impl.Exp) impl.Dec { return with(dec("f", e, "x", "y", "z"), w) }, [3]int{1, noSaying, 4}, [3]int{1, 0, 4}, false},
		{"in a Where", func(e impl.Exp) impl.Dec { return with(dec("f", num(1)), w, dec("v", e)) }, [3]int{1, noSaying, noSaying}, [3]int{1, 0, 0}, false},
		{"in a Where, with Pars", func(e impl.Exp) impl.Dec { return with(dec("f", num(1), "x", "_"), dec("v", e, "y"), w) }, [3]int{1, noSaying, 3}, [3]int{1, 0, 3}, false},
		{"in a Where's Where", func(e impl.Exp) impl.Dec { return with(dec("f", num(1), "x"), with(w, dec("v", e))) }, [3]int{1, noSaying, 2}, [3]int{1, 0, 2}, false},
		{"a let's body", func(e impl.Exp) impl.Dec { return dec("f", let(e, w), "x", "y") }, [3]int{noSaying, 0, 2}, [3]int{0, 0, 2}, false},
		{"in a let", func(e impl.Exp) impl.Dec { return dec("f", let(num(1), w, dec("v", e))) }, [3]int{noSaying, 0, noSaying}, [3]int{}, false},
		{"in a let of a name that is taken", func(e impl.Exp) impl.Dec { return dec("f", let(num(1), dec("v", e), w), "x", "w") }, [3]int{noSaying, 0, 2}, [3]int{0, 0, 2}, true},
	}
}

// wantAtLimit is of a program that has types and is met by a limit: with more than left, what would be turned passes it.
func (c sayingShape) wantAtLimit(t *testing.T, what string, p impl.Prog, left int, more [3]int) {
	t.Helper()
	if !impl.TypeOk(p) {
		t.Errorf("%s: no types", what)
		return
	}
	for i, s := range sayings() {
		want := impl.ToGood
		switch {
		case c.large[i] == noSaying:
			want = impl.ToNot
		case c.taken && s.what == letToWhere.what:
			want = impl.ToTaken
		case more[i] > left:
			want = impl.ToLarge
		}
		if code := checkSaid(t, p, "f", s, []int{0, 1, 10, 1000}, newSayingCount()); code != want {
			t.Errorf("%s: %s = %d; want %d", what, s.what, code, want)
		}
	}
}

func TestSayingsOfAsManyExpsAsThereMayBe(t *testing.T) {
	for _, c := range sayingShapes() {
		for n := 190; n <= 200; n++ {
			// Some in the Dec that is turned, and few.
			p, q := decs(c.of(sumOf(16, num(1)))), decs(c.of(num(1)))
			p, q = append(p, dec("main", sumOf(n-sizeOfDecs(p), num(1)))), append(decs(dec("main", sumOf(n-sizeOfDecs(q), num(1)))), q...)
			what := c.what + ", " + strconv.Itoa(n) + " Exps"
			if sizeOfDecs(p) != n || sizeOfDecs(q) != n {
				t.Error(what, "are", sizeOfDecs(p), sizeOfDecs(q))
			}
			c.wantAtLimit(t, what, impl.Prog{Decs: p}, 200-n, c.large)
			c.wantAtLimit(t, what+", few of them there", impl.Prog{Decs: q}, 200-n, c.large)
		}
	}
}

func TestSayingsAsDeepAsThereMayBe(t *testing.T) {
	for _, c := range sayingShapes() {
		deep := 0
		for long := 1; deep < 12; long++ {
			p := impl.Prog{Decs: decs(c.of(chain(long)), dec("main", num(1)))}
			deep = deepOfDecs(p.Decs, 0)
			c.wantAtLimit(t, c.what+", "+strconv.Itoa(deep)+" deep", p, 12-deep, c.deep)
		}
		if deep > 12 {
			t.Error(c.what, "is never 12 deep")
		}
		// That another Dec is as deep as may be is nothing to it.
		p := impl.Prog{Decs: decs(dec("g", chain(12)), c.of(num(1)), dec("main", chain(12)))}
		c.wantAtLimit(t, c.what+", beside deep ones", p, 12, c.deep)
	}
	// Neither limit may be passed, though the other one is not met; what has not to be turned is not asked for limits.
	full := impl.Prog{Decs: decs(dec("f", chain(12), "x"), with(dec("g", chain(12)), dec("w", num(1))), dec("h", sumOf(168, num(1))), dec("v", let(num(1), dec("x", num(2)), dec("y", num(3))), "y"), dec("main", num(1)))}
	if sizeOfDecs(full.Decs) != 12+13+168+4+1 {
		t.Error("Exps:", sizeOfDecs(full.Decs))
	}
	for _, c := range []struct {
		s    saying
		name string
		code int
	}{{toLam, "f", impl.ToLarge}, {whereToLet, "f", impl.ToNot}, {letToWhere, "f", impl.ToNot}, {whereToLet, "g", impl.ToLarge}, {toLam, "g", impl.ToNot}, {letToWhere, "g", impl.ToNot}, {toLam, "h", impl.ToNot}, {letToWhere, "v", impl.ToTaken}, {toLam, "v", impl.ToGood}, {toLam, "none", impl.ToNone}, {toLam, "main", impl.ToNot}} {
		if code := checkSaid(t, full, c.name, c.s, someFuels(), newSayingCount()); code != c.code {
			t.Errorf("%s of %s = %d; want %d", c.s.what, c.name, code, c.code)
		}
	}
}

// As many Decs and Pars, types that are asked for, and parts of a type as there may be: what is turned has no more of them.
func TestSayingsAtTheOtherLimits(t *testing.T) {
	good := func(what string, p impl.Prog, name string, s saying) impl.Prog {
		t.Helper()
		if !impl.TypeOk(p) {
			t.Errorf("%s: no types", what)
			return p
		}
		if code := checkSaid(t, p, name, s, someFuels(), newSayingCount()); code != impl.ToGood {
			t.Errorf("%s: %s of %s = %d", what, s.what, name, code)
		}
		q, _ := s.turn(p, name)
		return q
	}
	f := with(dec("f", num(1), "x", "y", "z", "u"), numbered(6)...)
	p := impl.Prog{Decs: append(numbered(10), f, dec("main", num(1)))}
	good("12 Decs, 6 of a let", good("12 Decs, 6 of a Where", p, "f", whereToLet), "f", letToWhere)
	good("12 Decs, 6 of a Where and 4 Pars", p, "f", toLam)
	good("eight signs", progRead(t, "abcdefgh abcdefgi = abcdefgj where { abcdefgj = abcdefgi }\nmain = abcdefgh 1"), "abcdefgh", whereToLet)
	good("eight signs", progRead(t, "abcdefgh abcdefgi = abcdefgj where { abcdefgj = abcdefgi }\nmain = abcdefgh 1"), "abcdefgh", toLam)
	for n := impl.MaxVars - 4; n <= impl.MaxVars; n++ {
		// One for the name of the Where, and one for main.
		p := impl.Prog{Decs: append(asking(n-2), dec("main", num(1)))}
		p.Decs[1].Where = decs(dec("w", num(1)))
		what := strconv.Itoa(n) + " types"
		good(what, p, p.Decs[1].Name, toLam)
		good(what, good(what, p, p.Decs[1].Name, whereToLet), p.Decs[1].Name, letToWhere)
	}
	for n := 2991; n <= 3000; n += 2 {
		p := impl.Prog{Decs: append(ofParts(n), dec("main", num(1)))}
		p.Decs[len(p.Decs)-2].Where = decs(dec("w", vr("x")))
		what, name := strconv.Itoa(n)+" parts of a type", "s"+strconv.Itoa(n)
		good(what, p, name, toLam)
		good(what, good(what, p, name, whereToLet), name, letToWhere)
	}
}

func TestSayingsOfProgramsFarTooLarge(t *testing.T) {
	for _, s := range sayings() {
		for _, name := range []string{"f", "none"} {
			turn := func(p impl.Prog) (impl.Prog, int) { return s.turn(p, name) }
			wantKept(t, turn, goingRound()...)
			if name == "f" {
				wantKept(t, turn, farTooLarge()...)
			}
		}
	}
}

// Lists of a program that stand at several places: the answer has them at each of its own.
func TestSayingsOfSharedLists(t *testing.T) {
	half := op("+", vr("x"), num(2))
	locals := decs(dec("a", half), dec("b", half, "x"))
	pars := []string{"x", "_"}
	p := impl.Prog{Decs: decs(
		impl.Dec{Name: "f", Pars: pars, E: half, Where: locals}, impl.Dec{Name: "g", Pars: pars, E: let(half, locals...)}, impl.Dec{Name: "h", Pars: pars, E: let(half, locals...), Where: locals},
		impl.Dec{Name: "k", Pars: pars, E: let(let(half, locals...), locals...)}, impl.Dec{Name: "x", E: num(1)},
		dec("main", op("+", app(app(vr("f"), num(1)), num(2)), app(app(vr("h"), vr("x")), vr("x")))),
	)}
	kept := told(p)
	for _, d := range p.Decs {
		for _, s := range sayings() {
			checkSaid(t, p, d.Name, s, someFuels(), newSayingCount())
			got, code := s.turn(p, d.Name)
			sharesNothing(t, s.what+" of "+d.Name, reflect.ValueOf(got))
			var m marker
			m.prog(got)
			if m.again > 0 {
				t.Errorf("%s of %s = %d: of %d places %d are shared with others", s.what, d.Name, code, m.places, m.again)
			}
		}
	}
	if told(p) != kept {
		t.Error("the program was written into")
	}
}

// sayingAnswers are answers of one program, of each code.
type sayingAnswers struct {
	Progs []impl.Prog
	Codes []int
}

func askSayings(p impl.Prog) (a sayingAnswers) {
	for _, name := range []string{"f", "h", "g", "k", "main", "x", ""} {
		for _, s := range sayings() {
			q, code := s.turn(p, name)
			a.Progs, a.Codes = append(a.Progs, q), append(a.Codes, code)
		}
	}
	return a
}

func TestSayingsAreNewMemory(t *testing.T) {
	wrong := progRead(t, sayingGiven)
	wrong.Decs[1].E.Decs[0].Pars = []string{"q", "q"}
	large := impl.Prog{Decs: append(progRead(t, sayingGiven).Decs[2:], with(dec("f", chain(12), "x", "_"), dec("w", num(1))), with(dec("h", num(1), "x", "_"), wheres(10)))}
	given := progRead(t, sayingGiven)
	large.Datas = given.Datas
	codes := map[int]int{}
	for i, base := range []impl.Prog{given, large, wholeProg(), wrong, {}} {
		p := roomy(reflect.ValueOf(base)).Interface().(impl.Prog)
		kept := toldWithRoom(reflect.ValueOf(p))
		want := askSayings(base)
		for _, code := range want.Codes {
			codes[code]++
		}
		for range 3 {
			got := askSayings(p)
			if told(got) != told(want) {
				t.Errorf("program %d: an answer hangs on the room behind, or was kept: %+v", i, got)
			}
			sharesNothing(t, "a saying", reflect.ValueOf(struct {
				Asked    impl.Prog
				Answered []impl.Prog
			}{p, got.Progs}))
			spoilAll(reflect.ValueOf(&got.Progs).Elem())
		}
		if toldWithRoom(reflect.ValueOf(p)) != kept {
			t.Errorf("program %d was written into", i)
		}
	}
	for code := impl.ToGood; code <= impl.ToLarge; code++ {
		if codes[code] == 0 {
			t.Error("none of the code", code, ":", codes)
		}
	}
}

// Each part of what is refused, and of what is beside the Dec that is turned, is kept, whatever it is changed to.
func TestSayingsKeepEachPart(t *testing.T) {
	for _, whole := range []func() impl.Prog{wholeProg, func() impl.Prog { return progRead(t, sayingGiven) }} {
		first := whole()
		for i := range changes(reflect.ValueOf(&first).Elem()) {
			changed := whole()
			changes(reflect.ValueOf(&changed).Elem())[i]()
			for _, s := range sayings() {
				want, wantCode := saidByHand(changed, "f", s)
				if got, code := s.turn(changed, "f"); code != wantCode || told(got) != told(want) {
					t.Errorf("change %d: %s = %+v, %d; want %d", i, s.what, got, code, wantCode)
				}
			}
		}
	}
}

// What came of one is nothing to another.
func TestNothingIsKeptOfSayings(t *testing.T) {
	behind, ahead := "f x = a where { a = x }\nmain = f 1", "f x = let { a = x } in a\nmain = f 1"
	for range 3 {
		wantThereAndBack(t, "f", naming{behind, ahead})
		wantSaid(t, toLam, said{behind, "f", `f = \x -> let { a = x } in a` + "\nmain = f 1"}, said{ahead, "f", `f = \x -> let { a = x } in a` + "\nmain = f 1"})
		wantRefusedSaying(t, "no Where", whereToLet, progRead(t, ahead), "f", impl.ToNot)
		wantRefusedSaying(t, "a Where", letToWhere, progRead(t, behind), "f", impl.ToNot)
		wantRefusedSaying(t, "taken", letToWhere, progRead(t, strings.ReplaceAll(ahead, "a", "x")), "f", impl.ToForm)
		for _, s := range sayings() {
			wantRefusedSaying(t, "no program", s, impl.Prog{}, "f", impl.ToForm)
		}
	}
	if !slices.Equal(askSayings(progRead(t, sayingGiven)).Codes[:6], []int{impl.ToGood, impl.ToNot, impl.ToGood, impl.ToNot, impl.ToGood, impl.ToGood}) {
		t.Error("other codes")
	}
}
