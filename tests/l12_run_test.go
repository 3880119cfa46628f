package tests

import (
	"math"
	"reflect"
	"slices"
	"strconv"
	"strings"
	"testing"

	"loop.example/g00471/impl"
)

// A running is a text of what main is, how much fuel it takes to end, counted by hand, and what it then is.
type running struct {
	text string
	fuel int
	want string
}

// Of these bad asks for itself, fail fits nowhere, and loop has no end.
const runGiven = `data L = N | C Int L
data T = A | B T T | D Int | E (Int -> Int) Bool Int T
bad = bad
fail = case 1 < 1 of { True -> fail }
loop x = loop x
i x = x
k x y = x
`

// The three that must not be asked for, and what comes of each.
func wrongRuns() []naming {
	return []naming{{"bad", "<hole>"}, {"fail", "<fail>"}, {"loop 1", "<fuel>"}}
}

func checkRun(t *testing.T, what string, p impl.Prog, fuel int, want string) impl.Res {
	t.Helper()
	got := impl.Run(p, fuel)
	if text := impl.ResText(got); text != want {
		t.Errorf("%s: Run of %d = %q; want %q", what, fuel, text, want)
	}
	if impl.Ended(got) != (want != "<fuel>") {
		t.Errorf("%s: Ended of %+v = %v", what, got, impl.Ended(got))
	}
	return got
}

// wantRun is of what ends with just as much fuel: with less there is RFuel, with more all is the same.
func wantRun(t *testing.T, what string, p impl.Prog, least int, want string) {
	t.Helper()
	for fuel := max(0, least-40); fuel < least; fuel++ {
		if got := checkRun(t, what, p, fuel, "<fuel>"); told(got) != told(impl.Res{K: impl.RFuel}) {
			t.Errorf("%s: Run of %d has more in it: %+v", what, fuel, got)
		}
	}
	first := checkRun(t, what, p, least, want)
	for _, fuel := range []int{least, least + 1, least + 2, least + 17, impl.MaxFuel} {
		if more := checkRun(t, what, p, min(fuel, impl.MaxFuel), want); !impl.Same(first, more) || told(first) != told(more) {
			t.Errorf("%s: Run of %d = %+v; of %d %+v", what, least, first, fuel, more)
		}
	}
}

func wantRuns(t *testing.T, ahead string, l ...running) {
	t.Helper()
	for _, c := range l {
		wantRun(t, c.text, progRead(t, ahead+"main = "+c.text), c.fuel, c.want)
	}
}

// wantComes is of what comes out with all the fuel there may be, and by hand at each fuel of some.
func wantComes(t *testing.T, ahead string, l ...naming) {
	t.Helper()
	for _, c := range l {
		p := progRead(t, ahead+"main = "+c.text)
		checkRun(t, c.text, p, impl.MaxFuel, c.names)
		for _, fuel := range []int{0, 1, 2, 3, 4, 5, 6, 7, 8, 9, 10, 11, 12, 15, 20, 30, 50, 100, 1000, impl.MaxFuel} {
			checkRunByHand(t, p, fuel)
		}
	}
}

func TestNumbersOfResults(t *testing.T) {
	got := []int{impl.RNum, impl.RCon, impl.RFun, impl.RFail, impl.RHole, impl.RFuel, impl.RMore, impl.MaxFuel, impl.Wrap}
	if !slices.Equal(got, []int{1, 2, 3, 4, 5, 6, 7, 3000, 1000000}) {
		t.Error(got)
	}
}

// Each kind by itself, with the fuel of main and of each Exp that is asked for.
func TestRunOfEachKind(t *testing.T) {
	wantRuns(t, runGiven,
		// Numbers and great names: main, and itself.
		running{"7", 2, "7"}, running{"0", 2, "0"}, running{"999999", 2, "999999"}, running{"True", 2, "True"}, running{"False", 2, "False"}, running{"N", 2, "N"}, running{"C", 2, "<function>"}, running{"E", 2, "<function>"},
		// A name: itself, and what it stands for.
		running{"main", 2, "<hole>"}, running{"k", 3, "<function>"}, running{"bad", 3, "<hole>"}, running{"one where { one = 1 }", 4, "1"},
		// Functions.
		running{`\x -> x`, 2, "<function>"}, running{`\_ -> bad`, 2, "<function>"}, running{`\x -> \y -> x`, 2, "<function>"},
		// Calls: the call, what is called, the body, and what is asked for of what is handed.
		running{`(\x -> x) 7`, 5, "7"}, running{`(\_ -> 1) 7`, 4, "1"}, running{`(\x -> \y -> x) 7`, 4, "<function>"}, running{`(\x -> \y -> x) 7 8`, 7, "7"}, running{`(\x -> \y -> y) 7 8`, 7, "8"},
		running{"C 1", 3, "<function>"}, running{"C 1 N", 6, "C 1 N"}, running{"D 5", 4, "D 5"}, running{"i 7", 6, "7"}, running{"k 7", 5, "<function>"}, running{"k 7 8", 8, "7"}, running{"loop 1", impl.MaxFuel, "<fuel>"},
		// Lets: the let, the body, and what is asked for of the Decs.
		running{"let x = 7 in 1", 3, "1"}, running{"let x = 7 in x", 4, "7"}, running{"let { x = y ; y = 7 } in x", 5, "7"}, running{`let f x = x in f`, 4, "<function>"}, running{"let f x = x in f 7", 7, "7"},
		// Cases: the case, what is looked at, if it is asked for, and the first Alt that fits.
		running{"case 7 of { x -> 1 }", 3, "1"}, running{"case 7 of { x -> x }", 4, "7"}, running{"case 7 of { _ -> 1 ; x -> x }", 3, "1"}, running{"case True of { True -> 1 ; False -> 2 }", 4, "1"}, running{"case False of { True -> 1 ; False -> 2 }", 4, "2"},
		running{"case N of { C h l -> 1 ; N -> 2 }", 4, "2"}, running{"case N of { C h l -> 1 ; _ -> 2 }", 4, "2"}, running{"case N of { C h l -> 1 ; x -> case x of { N -> 3 } }", 6, "3"}, running{"case C 7 N of { C h l -> h }", 7, "7"}, running{"case C 7 N of { C h l -> l }", 7, "N"}, running{"case C 7 N of { C _ _ -> 1 }", 6, "1"},
		running{"case N of { C h l -> 1 }", 3, "<fail>"}, running{"case True of { False -> 1 }", 3, "<fail>"}, running{"case 1 < 1 of { True -> 1 }", 5, "<fail>"},
		// Ifs: the if, what it asks, and one of the others.
		running{"if True then 1 else 2", 4, "1"}, running{"if False then 1 else 2", 4, "2"}, running{"if 1 < 2 then 3 else 4", 6, "3"}, running{"if 2 < 1 then 3 else 4", 6, "4"},
		// Operators: itself and both.
		running{"1 + 2", 4, "3"}, running{"5 - 2", 4, "3"}, running{"2 - 5", 4, "-3"}, running{"3 * 4", 4, "12"}, running{"1 == 1", 4, "True"}, running{"1 == 2", 4, "False"}, running{"1 < 2", 4, "True"}, running{"2 < 2", 4, "False"}, running{"3 < 2", 4, "False"}, running{"1 + 2 * 3", 6, "7"},
	)
	// Of Pars and a Where: each Par is a function, and the Where a let, which take one each.
	for _, c := range []running{
		{"f x = x\nmain = f 7", 6, "7"}, {"f x y = y\nmain = f 7 8", 8, "8"}, {"f _ _ = 1\nmain = f 7 8", 7, "1"}, {"f a b c d = c\nmain = f 1 2 3 4", 1 + 4 + 1 + 4 + 1 + 1, "3"},
		{"main = x\n  where\n    x = 7", 4, "7"}, {"f = x where { x = 7 }\nmain = f", 5, "7"}, {"f x = y where { y = x }\nmain = f 7", 8, "7"}, {"f x = 1 where { y = x }\nmain = f 7", 6, "1"}, {"main = let f x = y where { y = x } in f 7", 9, "7"},
	} {
		wantRun(t, c.text, progRead(t, c.text), c.fuel, c.want)
	}
}

// What was asked for once is kept: asked for again it takes no more than its name.
func TestEachThingIsWorkedOutOnce(t *testing.T) {
	wantRuns(t, runGiven,
		running{"let x = 1 + 2 in x * x", 8, "9"}, running{"x + x where { x = 1 + 2 }", 8, "6"}, running{"let { a = b ; b = 1 + 2 } in a + b", 9, "6"}, running{"let { a = b ; b = 1 + 2 } in b + a", 9, "6"},
		running{`(\x -> x + x) (1 + 2)`, 9, "6"}, running{"let f x = x + x in f (1 + 2)", 11, "6"}, running{"case 1 + 2 of { x -> x + x }", 8, "6"}, running{"i (1 + 2) + i 4", 13, "7"},
		// What a case looks at, of one Alt behind another, and of a name behind them.
		running{"case 1 < 2 of { False -> 1 ; True -> 2 }", 6, "2"}, running{"case 1 < 2 of { False -> True ; x -> x }", 6, "True"}, running{"case 1 < 2 of { False -> 1 ; False -> 2 ; False -> 3 ; True -> 4 }", 6, "4"}, running{"case 1 < 2 of { False -> 1 ; False -> 2 }", 5, "<fail>"},
		running{"case 1 < 2 of { x -> if x then x else x }", 8, "True"}, running{"case bad of { x -> 1 ; True -> 2 }", 3, "1"},
		// What a Con made of, by an Alt, by two, and shown.
		running{"case C (1 + 2) N of { C h l -> h + h }", 11, "6"}, running{"let c = C (1 + 2) N in case c of { C h l -> case c of { C g _ -> g + h } }", 15, "6"}, running{"let c = C (1 + 2) N in case c of { C h l -> C h c }", 16, "C 3 (C 3 N)"}, running{"case C (1 + 2) N of { C h l -> C h (C h l) }", 18, "C 3 (C 3 N)"},
		running{"let x = C 1 x in x", 8, "C 1 (C 1 (C 1 (C ... ...)))"}, running{"C 1 main", 6, "C 1 (C 1 (C 1 (C ... ...)))"}, running{"let t = B A A in B t t", 12, "B (B A A) (B A A)"},
		// Functions, and what they were handed: the body of a function is worked out at each call.
		running{"let f = k 1 in f 2 + f 3", 14, "2"}, running{"let f = k (1 + 2) in f 2 + f 3", 16, "6"}, running{"let c = C (1 + 2) in case c N of { C a _ -> case c N of { C b _ -> a + b } }", 16, "6"}, running{`let f = (\g -> g) (\x -> x) in f 1 + f 2`, 15, "3"},
		running{"let f x = 1 + 2 in f 1 + f 2", 14, "6"}, running{"let f = if 1 < 2 then i else i in f 1 + f 2", 17, "3"},
		running{"let x = if 1 < 2 then 3 else 4 in x + x", 10, "6"}, running{"let x = case N of { N -> 5 } in x + x", 8, "10"}, running{"let x = let y = 5 in y in x + x", 8, "10"}, running{"let x = i 5 in x + x", 10, "10"},
	)
	for _, c := range []running{
		{"main = x + x\nx = 1 + 2", 7, "6"}, {"main = a + b + c\na = b\nb = c\nc = 1 + 2", 11, "9"}, {"f x = x + x\nmain = f (1 + 2)", 10, "6"}, {"f x = y + y where { y = x + x }\nmain = f (1 + 2)", 14, "12"}, {"f x y = x + y + x + y\nmain = f (1 + 2) (3 + 4)", 1 + 2 + 1 + 2 + 3 + 4 + 6, "20"},
	} {
		wantRun(t, c.text, progRead(t, c.text), c.fuel, c.want)
	}
}

// What is not asked for is not worked out, whatever would come of it.
func TestWhatIsNotAskedFor(t *testing.T) {
	for _, w := range wrongRuns() {
		for _, c := range []running{
			{`(\_ -> 1) (@)`, 4, "1"}, {`(\x -> 1) (@)`, 4, "1"}, {"k 1 (@)", 8, "1"}, {"k (@)", 5, "<function>"}, {`\x -> @`, 2, "<function>"}, {"C (@)", 3, "<function>"}, {"E i (i (@)) (@)", 5, "<function>"},
			{"let x = @ in 1", 3, "1"}, {"let { x = y ; y = x ; z = @ } in 1", 3, "1"}, {"let f x = @ in 1", 3, "1"}, {"let f x = @ in f", 4, "<function>"}, {"1 where { x = @ }", 3, "1"}, {"let f x = x where { y = @ } in f 1", 8, "1"}, {"let f x = 1 where { y = x } in f (@)", 7, "1"},
			// What an Alt without a great name looks at, and what is handed on in it.
			{"case @ of { x -> 4 }", 3, "4"}, {"case @ of { _ -> 4 }", 3, "4"}, {"case @ of { x -> k 4 x }", 9, "4"}, {"case @ of { x -> 4 ; True -> 5 }", 3, "4"}, {"case @ of { x -> case x of { y -> 4 } }", 4, "4"}, {"case @ of { x -> let y = x in 4 }", 4, "4"}, {"let x = @ in case x of { y -> 4 }", 4, "4"},
			// Alts behind the one that fits, and those that do not fit.
			{"case True of { True -> 1 ; False -> @ }", 4, "1"}, {"case False of { True -> @ ; False -> 1 }", 4, "1"}, {"case True of { False -> @ ; _ -> 1 ; True -> @ }", 4, "1"}, {"case N of { C h l -> @ ; x -> 1 ; _ -> @ }", 4, "1"},
			// Parts that were looked at by their great name alone.
			{"case C (@) (@) of { C h l -> 1 }", 6, "1"}, {"case C 1 (@) of { C h l -> h }", 7, "1"}, {"case C (@) N of { C h l -> l }", 7, "N"}, {"case B (@) A of { B x y -> y }", 7, "A"}, {"case E i (@) 5 (@) of { E f x n y -> f n }", 14, "5"},
			{"if True then 1 else @", 4, "1"}, {"if False then @ else 1", 4, "1"}, {"if True then 1 else 1 + (@)", 4, "1"},
		} {
			text := strings.ReplaceAll(c.text, "@", w.text)
			wantRuns(t, runGiven, running{text, c.fuel, c.want})
		}
		// Deeper than 4: the two parts there take none of the fuel that those ahead of them took.
		wantRuns(t, runGiven,
			running{strings.ReplaceAll("C 1 (C 2 (C 3 (C (@) (@))))", "@", w.text), 16, "C 1 (C 2 (C 3 (C ... ...)))"},
			running{strings.ReplaceAll("B A (B A (B (B (@) (@)) A))", "@", w.text), 16, "B A (B A (B (B ... ...) A))"},
			running{strings.ReplaceAll("B (B (B (D (@)) A) A) A", "@", w.text), 15, "B (B (B (D ...) A) A) A"},
		)
	}
}

// What is asked for comes out, wherever it stands.
func TestWhatIsAskedFor(t *testing.T) {
	for _, w := range wrongRuns() {
		for _, text := range []string{
			"@", "i (@)", "k (@) 1", `(\x -> x) (@)`, `(\x -> x + 1) (@)`, "(@) 1", "i i (@)", "let x = @ in x", "let x = y where { y = @ } in x", "x where { x = @ }", "let f x = @ in f 1", "let { x = y ; y = i x ; z = @ } in z",
			"case @ of { x -> x }", "case @ of { True -> 1 ; _ -> 2 }", "case @ of { True -> 1 ; x -> 2 }", "case 1 < 2 of { True -> @ ; False -> 1 }", "case 1 < 2 of { False -> 1 ; x -> @ }", "case C 1 (@) of { C h l -> l }", "case C (@) N of { C h l -> h }", "case @ of { C _ _ -> 1 ; N -> 2 }",
			"if @ then 1 else 2", "if True then @ else 2", "if False then 1 else @", "(@) + 1", "1 + (@)", "(@) - 1", "1 - (@)", "(@) * 1", "0 * (@)", "(@) == 1", "1 == (@)", "(@) < 1", "1 < (@)",
			"C (@) N", "C 1 (@)", "C 1 (C (@) N)", "C 1 (C 2 (C (@) N))", "C 1 (C 2 (C 3 (@)))", "D (@)", "B A (@)", "B (@) A", "B A (B A (B A (@)))", "E i (@) 1 A", "E i True (@) A", "E i True 1 (@)", "E (@) True 1 A",
		} {
			wantComes(t, runGiven, naming{strings.ReplaceAll(text, "@", w.text), w.names})
		}
	}
}

// Names stand for what is innermost, whatever it is that binds them.
func TestNamesOneBehindAnother(t *testing.T) {
	wantComes(t, "x = 1\ny = 2\nf x = x * 10\n",
		naming{"x", "1"}, naming{"let x = 2 in x", "2"}, naming{"let x = 2 in let x = 3 in x", "3"}, naming{"let x = 2 in (let x = 3 in x) + x", "5"}, naming{"let { x = y ; y = 5 } in x", "5"}, naming{"let y = x in let x = 7 in y", "1"}, naming{"let y = x in let x = 7 in y + x", "8"},
		naming{`(\x -> x) 2`, "2"}, naming{`(\x -> \x -> x) 1 2`, "2"}, naming{`(\x -> (\x -> x) 3 + x) 2`, "5"}, naming{`let x = 4 in (\x -> x) 5`, "5"}, naming{`(\x -> let x = 6 in x) 5`, "6"}, naming{`(\y -> x) 5`, "1"}, naming{`(\_ -> x) 5`, "1"}, naming{`(\x -> \_ -> x) 5 6`, "5"},
		naming{"case 3 of { x -> x }", "3"}, naming{"case 3 of { y -> x }", "1"}, naming{"case 3 of { x -> case 4 of { x -> x } }", "4"}, naming{"case x of { x -> x + 1 }", "2"}, naming{"case x + 1 of { x -> case x + 1 of { x -> x } }", "3"}, naming{"case 3 of { _ -> x }", "1"},
		naming{"f 2", "20"}, naming{"f x", "10"}, naming{"let f x = x in f 2", "2"}, naming{"let f f = f + x in f 2", "3"}, naming{"x where { x = 8 }", "8"}, naming{"x + z where { z = y ; y = 9 }", "10"}, naming{"g 1 where { g x = x where { x = 8 } }", "8"}, naming{"g 1 where { g x = h + x where { h = x + 1 } }", "3"},
		naming{"g 5 6 where { g x _ = x }", "5"}, naming{"g 5 6 where { g _ x = x }", "6"}, naming{"g 5 6 where { g _ _ = x }", "1"}, naming{"let main = 6 in main", "6"}, naming{`(\main -> main) 7`, "7"}, naming{"case 3 of { main -> main }", "3"},
		// What is handed on stands for what it stood for where it was handed.
		naming{"(let x = 5 in f) x", "10"}, naming{"let g z = let x = 100 in z in g x", "1"}, naming{`let g h = let x = 100 in h 1 in g (\z -> x + z)`, "2"}, naming{`(let x = 5 in \z -> x + z) x`, "6"}, naming{`case 5 of { x -> \z -> x } `, "<function>"}, naming{`(case 5 of { x -> \z -> x + z }) x`, "6"},
	)
	wantComes(t, runGiven,
		naming{"case C 1 (C 2 N) of { C x l -> case l of { C x l -> x } }", "2"}, naming{"case C 1 (C 2 N) of { C x y -> case y of { C z y -> x } }", "1"}, naming{"case C 5 N of { C _ _ -> 1 ; N -> 2 }", "1"}, naming{"case C 5 N of { C _ x -> x }", "N"}, naming{`case E (\x -> x + 1) True 5 A of { E f b n t -> if b then f n else n }`, "6"},
		naming{`case E (\x -> x + 1) False 5 A of { E _ b _ t -> if b then A else t }`, "A"}, naming{"case B (D 1) (D 2) of { B x y -> B y x }", "B (D 2) (D 1)"}, naming{"case B (D 1) (D 2) of { B y x -> B y x }", "B (D 1) (D 2)"},
	)
}

func TestDecsThatAskForEachOther(t *testing.T) {
	const evens = "ev x = if x == 0 then True else od (x - 1)\nod x = if x == 0 then False else ev (x - 1)\n"
	wantComes(t, evens, naming{"ev 0", "True"}, naming{"ev 7", "False"}, naming{"ev 30", "True"}, naming{"od 31", "True"}, naming{"if ev 4 then if od 4 then 1 else 2 else 3", "2"})
	wantComes(t, "",
		naming{"let { ev x = if x == 0 then True else od (x - 1) ; od x = if x == 0 then False else ev (x - 1) } in ev 9", "False"}, naming{"ev 9 where { ev x = if x == 0 then True else od (x - 1) ; od x = if x == 0 then False else ev (x - 1) }", "False"},
		naming{"let { a = b + 1 ; b = c + 1 ; c = 1 } in a", "3"}, naming{"let { c = 1 ; b = c + 1 ; a = b + 1 } in a", "3"}, naming{"f 3 where f n = if n == 0 then 0 else n + f (n - 1)", "6"}, naming{"let f n = if n < 2 then 1 else n * f (n - 1) in f 9", "362880"}, naming{"let f n = if n < 2 then n else f (n - 1) + f (n - 2) in f 10", "55"},
	)
	wantComes(t, runGiven+"len l = case l of { N -> 0 ; C h t -> 1 + len t }\nmap f l = case l of { N -> N ; C h t -> C (f h) (map f t) }\nfrom n = C n (from (n + 1))\ntake n l = if n == 0 then N else case l of { C h t -> C h (take (n - 1) t) }\n",
		naming{"from 1", "C 1 (C 2 (C 3 (C ... ...)))"}, naming{"take 3 (from 5)", "C 5 (C 6 (C 7 N))"}, naming{"len (take 20 (from 0))", "20"}, naming{`map (\x -> x * x) (take 3 (from 2))`, "C 4 (C 9 (C 16 N))"}, naming{"take 2 N", "<fail>"}, naming{"len (from 0)", "<fuel>"}, naming{"len (C bad (C fail (C (loop 1) N)))", "3"}, naming{"map bad N", "N"}, naming{"map bad (C 1 N)", "<hole>"},
		naming{"let ones = C 1 ones in take 3 ones", "C 1 (C 1 (C 1 N))"}, naming{`let nats = C 0 (map (\x -> x + 1) nats) in take 3 nats`, "C 0 (C 1 (C 2 N))"}, naming{"let { a = C 1 b ; b = C 2 a } in take 3 a", "C 1 (C 2 (C 1 N))"},
	)
}

// A function of several Pars that is handed fewer, as many, and more.
func TestFunctionsOfSeveralPars(t *testing.T) {
	const ahead = "sub a b c = a * 100 + b * 10 + c\ntwice f x = f (f x)\npick b = if b then k else \\x -> \\y -> y\nk x y = x\ni x = x\n"
	wantComes(t, ahead,
		naming{"sub", "<function>"}, naming{"sub 1", "<function>"}, naming{"sub 1 2", "<function>"}, naming{"sub 1 2 3", "123"}, naming{"let f = sub 1 in f 2 3 + f 4 5", "268"}, naming{"let { f = sub 1 ; g = f 2 } in g 3 + g 4 + f 5 6", "403"},
		naming{"twice (sub 1 2) 3", "243"}, naming{"twice (twice (\\n -> n * 2)) 3", "48"}, naming{"twice twice (\\n -> n * 2) 3", "48"}, naming{"twice i", "<function>"}, naming{"pick True 1 2", "1"}, naming{"pick False 1 2", "2"}, naming{"pick True", "<function>"}, naming{"pick False 1", "<function>"},
		naming{"i i i i 5", "5"}, naming{"i sub 1 2 3", "123"}, naming{"k sub 1 1 2 3", "123"}, naming{"k i 1 2", "2"}, naming{`(\f -> f 1 2) k`, "1"}, naming{`let f = \x -> \y -> \z -> x + y * z in f 1 2 3`, "7"}, naming{"let f x = let g y = x + y in g in f 1 2 + f 3 4", "10"}, naming{"let f x = g where { g y z = x * y + z } in f 2 3 4", "10"},
		// As deep as fuel goes: what is handed on is a call of a call.
		naming{"(let f n g = if n == 0 then g 0 else f (n - 1) (\\x -> g (x + 1)) in f 100 i)", "100"},
	)
}

// A great name without Args, with fewer, and with all.
func TestGreatNamesOfEachMany(t *testing.T) {
	wantComes(t, runGiven,
		naming{"A", "A"}, naming{"D", "<function>"}, naming{"D 1", "D 1"}, naming{"B", "<function>"}, naming{"B A", "<function>"}, naming{"B A (D 1)", "B A (D 1)"}, naming{"E", "<function>"}, naming{"E i", "<function>"}, naming{"E i True", "<function>"}, naming{"E i True 1", "<function>"}, naming{"E i True 1 A", "E <function> True 1 A"},
		naming{"E i (1 < 2) (1 - 2) (D 3)", "E <function> True (-1) (D 3)"}, naming{`E (\x -> bad) False 0 (B A A)`, "E <function> False 0 (B A A)"}, naming{"let b = B (D 1) in B (b A) (b (D 2))", "B (B (D 1) A) (B (D 1) (D 2))"}, naming{"let { e = E i ; f = e True ; g = f 1 } in B (g A) (B (f 2 A) (e False 3 A))", "B (E <function> True 1 A) (B (E <function> True 2 A) (E <function> False 3 A))"},
		naming{"let f c = c 1 N in f C", "C 1 N"}, naming{"k C 1 2 N", "C 2 N"}, naming{"(if 1 < 2 then B A else i) A", "B A A"}, naming{"case C of { c -> c 1 N }", "C 1 N"}, naming{"i B (i A) (i i A)", "B A A"},
	)
	// One that lacks parts is called again and again, and each time with others.
	wantComes(t, "data Q = Q Int Int Int Int\n",
		naming{"let { c = Q 1 2 3 ; x = c 4 ; y = c 5 } in case x of { Q _ _ _ _ -> case y of { Q _ _ _ _ -> case x of { Q _ _ _ p -> p } } }", "4"}, naming{"let { c = Q 1 2 3 ; x = c 4 ; y = c 5 } in case x of { Q _ _ _ _ -> case y of { z -> case z of { Q _ _ _ _ -> x } } }", "Q 1 2 3 4"},
		naming{"let { a = Q 1 ; b = a 2 ; c = b 3 ; x = c 4 ; y = c 5 ; z = b 6 7 } in case x of { Q _ _ _ p -> case y of { Q _ _ _ q -> case z of { Q r s t u -> Q p q (r * 100 + s * 10 + t) u } } }", "Q 4 5 126 7"},
	)
}

// What asks for itself, and what has no more fuel: the one that comes first.
func TestWhatAsksForItself(t *testing.T) {
	for _, c := range []running{
		{"main = main", 2, "<hole>"}, {"main = x + 1\nx = main", 4, "<hole>"}, {"main = a\na = b\nb = a", 4, "<hole>"}, {"main = a\na = b\nb = c\nc = a", 5, "<hole>"}, {"main = 1 + main", 4, "<hole>"}, {"main = main + 1", 3, "<hole>"}, {"main = if main then True else False", 3, "<hole>"}, {"main = x where { x = main }", 4, "<hole>"}, {"main = x where { x = x }", 4, "<hole>"},
		{"main = case main of { True -> True }", 3, "<hole>"}, {"main = case main of { x -> 1 }", 3, "1"}, {"main = case main of { x -> x }", 4, "<hole>"}, {"main = case 1 < 2 of { True -> main }", 6, "<hole>"}, {"main = if True then 1 else main", 4, "1"}, {"main = main + main", 3, "<hole>"}, {"main = i main\ni x = x", 6, "<hole>"}, {"main = (\\x -> 1) main", 4, "1"}, {"main = (\\x -> x) main", 5, "<hole>"},
	} {
		wantRun(t, c.text, progRead(t, c.text), c.fuel, c.want)
	}
	wantRuns(t, runGiven,
		running{"let x = x in x", 4, "<hole>"}, running{"let { x = y ; y = x } in x", 5, "<hole>"}, running{"let x = 1 + x in x", 6, "<hole>"}, running{"let x = x + 1 in x", 5, "<hole>"}, running{"let x = if x then x else x in x", 5, "<hole>"}, running{"let x = i x in x", 8, "<hole>"}, running{"let x = let y = x in y in x", 6, "<hole>"}, running{"let x = (let x = 5 in x) + x in x", 8, "<hole>"},
		// In an Alt, and as what a case looks at.
		running{"let x = case x of { N -> N ; y -> y } in x", 5, "<hole>"}, running{"let x = case x of { y -> y } in x", 6, "<hole>"}, running{"let x = case x of { y -> N } in x", 5, "N"}, running{"let x = case N of { N -> x } in x", 6, "<hole>"}, running{"let x = case C 1 x of { C h l -> l } in x", 9, "<hole>"}, running{"let x = case C 1 x of { C h l -> C h N } in x", 13, "C 1 N"},
		// In a part: what is made is there ahead of its parts.
		running{"let x = C x2 N in x where { x2 = x2 }", 9, "<hole>"}, running{"C bad N", 6, "<hole>"}, running{"C 1 bad", 7, "<hole>"}, running{"let x = C (case x of { C h l -> 1 }) N in x", 10, "C 1 N"}, running{"let x = C (case x of { C h l -> h }) N in x", 9, "<hole>"}, running{"let { a = B b A ; b = B a A } in a", 13, "B (B (B (B ... ...) A) A) A"},
		// No name asks for itself by being called again.
		running{"let f x = if x then 1 else f True in f False", 14, "1"}, running{"let { f x = g x ; g x = f x } in f 1", impl.MaxFuel, "<fuel>"}, running{"let x = loop x in x", impl.MaxFuel, "<fuel>"},
		// Which one of them comes first.
		running{"bad + loop 1", 4, "<hole>"}, running{"loop 1 + bad", impl.MaxFuel, "<fuel>"}, running{"fail + bad", 7, "<fail>"}, running{"bad + fail", 4, "<hole>"}, running{"fail + loop 1", 7, "<fail>"}, running{"loop 1 + fail", impl.MaxFuel, "<fuel>"}, running{"if bad then fail else loop 1", 4, "<hole>"}, running{"k fail bad", 12, "<fail>"}, running{"fail bad", 7, "<fail>"}, running{"bad fail", 4, "<hole>"},
	)
	// What asks no more may be asked for by what it was asked for by.
	wantComes(t, runGiven, naming{"let { a = C 1 b ; b = case a of { C h l -> C (h + 1) N } } in a", "C 1 (C 2 N)"}, naming{"let { f = \\x -> g ; g = f 1 } in k 5 g", "5"}, naming{"let { a = k 1 b ; b = a + 1 } in b", "2"}, naming{"let { a = k 1 b ; b = a + 1 } in a + b", "3"})
}

// The answer: main and its parts, 4 deep, from the front on; instead of all the first that is none.
func TestWhatMainIsMadeOf(t *testing.T) {
	wantRuns(t, runGiven,
		running{"C 1 (C 2 N)", 10, "C 1 (C 2 N)"}, running{"C 1 (C 2 (C 3 N))", 14, "C 1 (C 2 (C 3 N))"}, running{"C 1 (C 2 (C 3 (C 4 N)))", 16, "C 1 (C 2 (C 3 (C ... ...)))"}, running{"B (B (B A A) (B A A)) A", 18, "B (B (B A A) (B A A)) A"}, running{"B (B (B (B A A) (D 1)) A) A", 17, "B (B (B (B ... ...) (D ...)) A) A"}, running{"B (B (B A (B A A)) A) A", 16, "B (B (B A (B ... ...)) A) A"},
		running{"E (\\x -> x + bad) True (1 - 2) A", 12, "E <function> True (-1) A"}, running{"B (D 1) (B (D 2) (D 3))", 16, "B (D 1) (B (D 2) (D 3))"},
	)
	// Each part with all in it comes ahead of the next one.
	wantRuns(t, runGiven,
		running{"B (D fail) (D bad)", 11, "<fail>"}, running{"B (D bad) (D fail)", 8, "<hole>"}, running{"B (B (D fail) A) bad", 14, "<fail>"}, running{"B (B A (D bad)) fail", 12, "<hole>"}, running{"B (B (B (D bad) A) fail) bad", 18, "<fail>"}, running{"B (B (D (loop 1)) A) bad", impl.MaxFuel, "<fuel>"}, running{"B (B bad (D (loop 1))) fail", 9, "<hole>"},
	)
}

// Of each kind what it does not name is zero.
func TestPartsOfResults(t *testing.T) {
	number := func(n int) impl.Res { return impl.Res{K: impl.RNum, N: n} }
	made := func(s string, l ...impl.Res) impl.Res { return impl.Res{K: impl.RCon, S: s, L: l} }
	fun, more := impl.Res{K: impl.RFun}, impl.Res{K: impl.RMore}
	for _, c := range []struct {
		text string
		want impl.Res
	}{
		{"7", number(7)}, {"0", number(0)}, {"0 - 7", number(-7)}, {"True", made("True")}, {"1 == 2", made("False")}, {"1 < 2", made("True")}, {"N", made("N")}, {"C", fun}, {"C 1", fun}, {"E i True 1", fun}, {`\x -> 7`, fun}, {"k", fun}, {"k 1", fun},
		{"bad", impl.Res{K: impl.RHole}}, {"fail", impl.Res{K: impl.RFail}}, {"loop 1", impl.Res{K: impl.RFuel}}, {"C 1 bad", impl.Res{K: impl.RHole}}, {"C fail bad", impl.Res{K: impl.RFail}}, {"C 1 (C (loop 1) bad)", impl.Res{K: impl.RFuel}},
		{"C 1 N", made("C", number(1), made("N"))}, {"E i False (1 - 2) (D 3)", made("E", fun, made("False"), number(-1), made("D", number(3)))},
		{"let l = C 5 l in l", made("C", number(5), made("C", number(5), made("C", number(5), made("C", more, more))))}, {"B A (B A (B A (E i True 1 A)))", made("B", made("A"), made("B", made("A"), made("B", made("A"), made("E", more, more, more, more))))}, {"B A (B A (B A A))", made("B", made("A"), made("B", made("A"), made("B", made("A"), made("A"))))},
	} {
		p := progRead(t, runGiven+"main = "+c.text)
		got := impl.Run(p, impl.MaxFuel)
		if told(got) != told(c.want) || !impl.Same(got, c.want) || !impl.Same(c.want, got) {
			t.Errorf("%s: Run = %+v; want %+v", c.text, got, c.want)
		}
	}
}

// Numbers are what is left by Wrap, with the sign of what was divided, each time that one is worked out.
func TestNumbersByWrap(t *testing.T) {
	wantComes(t, "",
		naming{"999999 + 1", "0"}, naming{"999999 + 2", "1"}, naming{"999999 + 999999", "999998"}, naming{"999998 + 1", "999999"}, naming{"500000 * 2", "0"}, naming{"500000 * 3", "500000"}, naming{"999999 * 999999", "1"}, naming{"1000 * 1000", "0"}, naming{"1001 * 1001", "2001"}, naming{"999999 * 2", "999998"},
		naming{"0 - 1", "-1"}, naming{"0 - 999999", "-999999"}, naming{"0 - 999999 - 1", "0"}, naming{"0 - 999999 - 2", "-1"}, naming{"0 - 999999 - 999999", "-999998"}, naming{"(0 - 999999) * 999999", "-1"}, naming{"(0 - 999999) * (0 - 999999)", "1"}, naming{"(0 - 3) * 4", "-12"}, naming{"(0 - 3) * (0 - 4)", "12"}, naming{"(0 - 1001) * 1001", "-2001"}, naming{"(0 - 1000) * 1000", "0"},
		naming{"(0 - 5) + 7", "2"}, naming{"(0 - 5) - 7", "-12"}, naming{"5 - (0 - 7)", "12"}, naming{"(0 - 999999) + (0 - 2)", "-1"}, naming{"999999 - (0 - 2)", "1"}, naming{"0 * (0 - 7)", "0"},
		naming{"999999 + 1 == 0", "True"}, naming{"999999 + 1 < 1", "True"}, naming{"0 - 1 < 0", "True"}, naming{"0 - 2 < 0 - 1", "True"}, naming{"0 - 1 < 0 - 2", "False"}, naming{"0 - 1 == 999999", "False"}, naming{"0 - 1 == 0 - 1", "True"}, naming{"0 - 999999 - 2 == 0 - 1", "True"}, naming{"999999 * 999999 == 1", "True"}, naming{"(0 - 999999) - 1 == 0", "True"},
		// Worked out again and again, so that what was not left by Wrap would be seen.
		naming{"let f n x = if n == 0 then x else f (n - 1) (x * x) in f 20 7", "105601"}, naming{"let f n x = if n == 0 then x else f (n - 1) (x * 999983) in f 40 3", "89603"}, naming{"let f n x = if n == 0 then x else f (n - 1) (x - 999999) in f 50 0", "-999950"},
	)
}

// counting takes 10 of fuel, 9 more for each of n, and one for each let.
func counting(t *testing.T, n, lets int) impl.Prog {
	return progRead(t, "f n = if n == 0 then 0 else f (n - 1)\nmain = "+strings.Repeat("let z = bad in ", lets)+"f "+strconv.Itoa(n)+"\nbad = bad\n")
}

func TestFuel(t *testing.T) {
	for n := range 12 {
		for lets := range 4 {
			wantRun(t, "counting", counting(t, n, lets), 10+9*n+lets, "0")
		}
	}
	for lets := range 9 {
		// 10 and 9 * 331 are 2989.
		if fuel := 2989 + lets; fuel <= impl.MaxFuel {
			wantRun(t, "counting", counting(t, 331, lets), fuel, "0")
		}
	}
	wantRun(t, "counting, one less than all", counting(t, 332, 1), impl.MaxFuel-1, "0")
	wantRun(t, "counting, all of it", counting(t, 332, 2), impl.MaxFuel, "0")
	for _, lets := range []int{3, 4, 9} {
		for _, fuel := range []int{2999, 3000, 3001, 3010} {
			checkRun(t, "counting, more than there is", counting(t, 332, lets), fuel, "<fuel>")
		}
	}
}

// What is not 0 .. MaxFuel is 0, and with 0 not even main is asked for.
func TestFuelThatIsNone(t *testing.T) {
	none := []int{math.MinInt, math.MinInt + 1, -3000, -2, -1, 0, impl.MaxFuel + 1, impl.MaxFuel + 2, 2 * impl.MaxFuel, math.MaxInt - 1, math.MaxInt}
	for _, text := range []string{"main = 1", "main = main", "main = let x = 1 + 2 in x * x", runGiven + "main = C 1 N", runGiven + "main = fail", "main = \\x -> x"} {
		p := progRead(t, text)
		for _, fuel := range none {
			if got := impl.Run(p, fuel); told(got) != told(impl.Res{K: impl.RFuel}) {
				t.Errorf("%q: Run of %d = %+v", text, fuel, got)
			}
		}
		// With 1 main is asked for, but not what it stands for.
		if got := impl.Run(p, 1); told(got) != told(impl.Res{K: impl.RFuel}) {
			t.Errorf("%q: Run of 1 = %+v", text, got)
		}
		if got := impl.Run(p, impl.MaxFuel); !impl.Ended(got) {
			t.Errorf("%q: Run of MaxFuel = %+v", text, got)
		}
	}
	wantRuns(t, "", running{"5", 2, "5"}, running{"main", 2, "<hole>"})
}

// wantNoRun is of what is not TypeOk: that comes ahead of what the fuel says.
func wantNoRun(t *testing.T, what string, p impl.Prog) {
	t.Helper()
	if impl.TypeOk(p) {
		t.Errorf("%s is TypeOk", what)
	}
	for _, fuel := range []int{math.MinInt, -1, 0, 1, 2, 9, impl.MaxFuel, impl.MaxFuel + 1, math.MaxInt} {
		if got := impl.Run(p, fuel); told(got) != told(impl.Res{K: impl.RFail}) || !impl.Ended(got) {
			t.Errorf("%s: Run of %d = %+v", what, fuel, got)
		}
	}
}

func TestRunOfWhatIsNotRight(t *testing.T) {
	for _, s := range []string{
		"f = 1", "main x = x", "main _ = 1", "f = main", "main = 1 2", "main = x", "main = Z", "main = 1 + True", "main = if 1 then 2 else 3", "main = case 1 of { True -> 1 }", "main = \\x -> x x", "main = 1\nf = 1 2", "main = 1\nf = y", "main = True True", "main = main 1", "main = case C 1 N of { C h -> h }", "data L = N | C Int M\nmain = N",
		"main = let x = 1 2 in 3", "main = (\\x -> 1) (1 2)", "main = if True then 1 else False", "main = 1 where { x = True + 1 }",
	} {
		p, _ := impl.ParseProg(s)
		wantNoRun(t, s, p)
	}
	one := func(e impl.Exp) impl.Prog { return impl.Prog{Decs: decs(dec("main", e))} }
	wantNoRun(t, "the zero Prog", impl.Prog{})
	wantNoRun(t, "empty lists", impl.Prog{Datas: []impl.Data{}, Decs: []impl.Dec{}})
	for k := -1; k <= 11; k++ {
		wantNoRun(t, "an Exp of kind "+strconv.Itoa(k)+" without parts", one(impl.Exp{K: k, S: "X"}))
		wantNoRun(t, "an overfull Exp of kind "+strconv.Itoa(k), one(overfull(k)))
	}
	wantNoRun(t, "a number too large", one(num(1000000)))
	wantNoRun(t, "a number below 0", one(num(-1)))
	wantNoRun(t, "two of one Name", impl.Prog{Decs: decs(dec("main", num(1)), dec("main", num(2)))})
	wantNoRun(t, "thirteen Decs", impl.Prog{Decs: append(numbered(12), dec("main", num(1)))})
	wantNoRun(t, "a let without Decs", one(let(num(1))))
	wantNoRun(t, "a case without Alts", one(caseOf(num(1))))
	wantNoRun(t, "too deep", one(chain(13)))
	wantNoRun(t, "far too deep", one(chain(100000)))
	wantNoRun(t, "far too wide", one(impl.Exp{K: impl.EApp, L: slices.Repeat([]impl.Exp{num(1)}, 100000)}))
	wantNoRun(t, "doubled", one(doubled(200, func(e impl.Exp) impl.Exp { return op("+", e, e) })))
	round := app(num(1), num(2))
	round.L[0] = round
	wantNoRun(t, "an Exp that goes round", one(round))
	ring := decs(dec("main", num(1)))
	ring[0].Where = ring
	wantNoRun(t, "a Where that goes round", impl.Prog{Decs: ring})
	wantNoRun(t, "Datas of one Name", impl.Prog{Datas: []impl.Data{data("T", con("A")), data("T", con("B"))}, Decs: decs(dec("main", num(1)))})
}

// Names that nobody is told apart by are none: `_` may stand many times.
func TestRunWithoutNames(t *testing.T) {
	wantComes(t, runGiven, naming{`(\_ -> \_ -> 1) bad fail`, "1"}, naming{"let f _ x _ y = x - y in f bad 7 fail 2", "5"}, naming{"case E i True 4 A of { E _ _ n _ -> n }", "4"}, naming{"let f _ = case 3 of { _ -> 4 } in f bad", "4"})
}

// At the limits of chapter 3: as deep as may be, and of as many Exps, Decs, Alts, Pars, Cons and Args.
func TestRunAtTheLimits(t *testing.T) {
	lams := num(5)
	for i := range 11 {
		lams = lam([]string{"a", "b", "_"}[i%3], lams)
	}
	wantRun(t, "as deep as may be", impl.Prog{Decs: decs(dec("main", lams))}, 2, "<function>")
	sum := num(1)
	for range 5 {
		sum = op("+", sum, num(1))
	}
	wantRun(t, "a sum", impl.Prog{Decs: decs(dec("main", sum))}, 12, "6")
	l := numbered(11)
	wantRun(t, "twelve Decs", impl.Prog{Decs: append(l, dec("main", op("+", vr(l[0].Name), vr(l[10].Name))))}, 6, "10")
	wantComes(t, "data T = A | B | D | E | F Int Int Int Int\ndata U = G | H | I | J | K T\n",
		naming{"let f a b c d = F a b c d in case f 1 2 3 4 of { A -> 0 ; B -> 1 ; D -> 2 ; E -> 3 ; F a b c d -> a * 1000 + b * 100 + c * 10 + d ; x -> 5 }", "1234"}, naming{"case J of { G -> 0 ; H -> 1 ; I -> 2 ; K t -> 3 ; J -> 4 ; x -> 5 }", "4"}, naming{"case K E of { G -> 0 ; K t -> case t of { A -> 1 ; E -> 2 } }", "2"},
		naming{"let { a = b ; b = c ; c = d ; d = e ; e = f ; f = 6 } in a", "6"}, naming{"a where { a = b ; b = c ; c = d ; d = e ; e = f ; f = 6 }", "6"},
	)
	// Of 200 Exps: a tree of ifs, of which six are asked for, each with what it asks.
	wantRun(t, "200 Exps", impl.Prog{Decs: decs(dec("main", op("+", op("+", num(1), num(1)), tree(66, num(2)))))}, 1+4+2*6+1, "4")
}

func someRes() impl.Res {
	number := impl.Res{K: impl.RNum, N: -4}
	return impl.Res{K: impl.RCon, S: "Cons", N: 3, L: []impl.Res{number, {K: impl.RCon, S: "A", L: []impl.Res{{K: impl.RFun}, {K: impl.RMore, S: "x", L: []impl.Res{number}}}}, {K: impl.RFail}, {K: 99, S: "b", N: -1, L: []impl.Res{{}, {K: impl.RHole}}}}}
}

func TestSameOfResults(t *testing.T) {
	checkChanges(t, someRes, impl.Same, 100)
	l := []impl.Res{someRes(), {K: impl.RCon, L: []impl.Res{{}}}, {K: impl.RCon, L: []impl.Res{{}, {}}}, {K: impl.RCon, L: []impl.Res{{K: impl.RNum}}}, {K: impl.RCon, L: []impl.Res{{K: impl.RNum}, {}}}, {L: []impl.Res{{L: []impl.Res{{}}}}}}
	for _, k := range []int{math.MinInt, -7, -1, 0, 1, 2, 3, 4, 5, 6, 7, 8, 13, math.MaxInt} {
		l = append(l, impl.Res{K: k}, impl.Res{K: k, S: "A"}, impl.Res{K: k, S: "a"}, impl.Res{K: k, N: 1}, impl.Res{K: k, N: -1}, impl.Res{K: k, L: []impl.Res{{K: k}}}, impl.Res{K: k, L: []impl.Res{{K: k}, {K: k}}})
	}
	for i, a := range l {
		for j, b := range l {
			if want := told(a) == told(b); impl.Same(a, b) != want || i == j != want {
				t.Errorf("Same(%+v, %+v) = %v", a, b, !want)
			}
		}
		empty := a
		if empty.L == nil {
			empty.L = []impl.Res{}
		}
		if !impl.Same(a, empty) || !impl.Same(empty, a) {
			t.Errorf("%+v: not the same with an empty list", a)
		}
		if impl.Ended(a) != (a.K != impl.RFuel) {
			t.Errorf("Ended(%+v) = %v", a, impl.Ended(a))
		}
	}
	// A part that is RFuel is none of what has ended.
	if !impl.Ended(impl.Res{K: impl.RCon, L: []impl.Res{{K: impl.RFuel}}}) || !impl.Ended(impl.Res{}) {
		t.Error("Ended looks at more than the kind")
	}
}

// nestedRes is so many deep, with end at the bottom.
func nestedRes(deep int, end impl.Res) impl.Res {
	for range deep {
		end = impl.Res{K: impl.RCon, S: "A", L: []impl.Res{{K: impl.RNum}, end}}
	}
	return end
}

func TestSameOfResultsFarTooDeepOrTooWide(t *testing.T) {
	const deep = 300000
	one, two := impl.Res{K: impl.RNum, N: 1}, impl.Res{K: impl.RNum, N: 2}
	if !impl.Same(nestedRes(deep, one), nestedRes(deep, one)) || impl.Same(nestedRes(deep, one), nestedRes(deep, two)) || impl.Same(nestedRes(deep, one), nestedRes(deep+1, one)) {
		t.Error("far too deep")
	}
	wide := func(last impl.Res) impl.Res {
		return impl.Res{K: impl.RCon, L: append(slices.Repeat([]impl.Res{{K: impl.RCon, L: []impl.Res{one}}}, deep), last)}
	}
	if !impl.Same(wide(one), wide(one)) || impl.Same(wide(one), wide(two)) || impl.Same(wide(one), impl.Res{K: impl.RCon, L: wide(one).L[1:]}) {
		t.Error("far too wide")
	}
	a, b, c := one, one, two
	for range 100 {
		a, b, c = impl.Res{K: impl.RCon, L: []impl.Res{a, a}}, impl.Res{K: impl.RCon, L: []impl.Res{b, b}}, impl.Res{K: impl.RCon, L: []impl.Res{c, c}}
	}
	if !impl.Same(a, b) || impl.Same(a, c) {
		t.Error("doubled again and again")
	}
}

func TestSameOfResultsThatGoRound(t *testing.T) {
	ring := func(long int, last impl.Res) impl.Res {
		lists := make([][]impl.Res, long)
		for i := range lists {
			lists[i] = make([]impl.Res, 2)
		}
		for i := range lists {
			lists[i][0], lists[i][1] = impl.Res{K: impl.RCon, S: "A", L: lists[(i+1)%long]}, impl.Res{K: impl.RNum, N: 1}
		}
		lists[long-1][1] = last
		return lists[0][0]
	}
	one, two := impl.Res{K: impl.RNum, N: 1}, impl.Res{K: impl.RNum, N: 2}
	if !impl.Same(ring(1, one), ring(1, one)) || !impl.Same(ring(2, one), ring(3, one)) || !impl.Same(ring(7, one), ring(1, one)) || impl.Same(ring(3, one), ring(3, two)) || impl.Same(ring(3, two), ring(4, two)) || !impl.Same(ring(3, two), ring(3, two)) || impl.Same(ring(1, one), nestedRes(50, one)) {
		t.Error("what goes round")
	}
}

func spoilRes(r *impl.Res) { spoilAll(reflect.ValueOf(r).Elem()) }

// Nothing is written into an argument, nor behind it, and no list of an answer shares memory with anything.
func TestResultsAreNewMemory(t *testing.T) {
	for _, text := range []string{
		"main = 1", "main = B A (B (D 1) (B A (D 2)))", "main = let t = B A A in B t (B t t)", "main = let l = C 1 l in l", "main = E i (1 < 2) (1 - 2) (B (D 1) A)", "main = f (D 1) where { f x = B x y where { y = B x x } }", "main = case B A (D 7) of { B x y -> B (B x y) (B y x) ; z -> z }", "main = let b = B (D 1) in B (b A) (b (D 2))", "main = C fail N", "main = bad", "main = 1 2",
	} {
		base, _ := impl.ParseProg(runGiven + text)
		want := impl.Run(base, 500)
		p := roomy(reflect.ValueOf(base)).Interface().(impl.Prog)
		kept := toldWithRoom(reflect.ValueOf(p))
		for range 3 {
			got := impl.Run(p, 500)
			if told(got) != told(want) {
				t.Errorf("%q: an answer hangs on the room behind, or was kept: %+v; want %+v", text, got, want)
			}
			sharesNothing(t, text, reflect.ValueOf(struct {
				Asked    impl.Prog
				Answered impl.Res
				Other    impl.Res
			}{p, got, impl.Run(p, 500)}))
			spoilRes(&got)
		}
		if toldWithRoom(reflect.ValueOf(p)) != kept {
			t.Errorf("%q was written into", text)
		}
	}
	a := roomy(reflect.ValueOf(someRes())).Interface().(impl.Res)
	b := roomy(reflect.ValueOf(someRes())).Interface().(impl.Res)
	kept := toldWithRoom(reflect.ValueOf(a))
	for range 3 {
		if !impl.Same(a, b) || !impl.Ended(a) {
			t.Error("Same hangs on the room behind")
		}
	}
	if toldWithRoom(reflect.ValueOf(a)) != kept || toldWithRoom(reflect.ValueOf(b)) != kept {
		t.Error("Same writes into what it is handed")
	}
}

// Lists of a program that stand at several places are each read where they stand.
func TestRunOfSharedLists(t *testing.T) {
	half := app(vr("f"), num(2))
	alts := []impl.Alt{alt("", vr("x"), "x")}
	p := impl.Prog{Decs: decs(
		dec("f", op("+", vr("x"), num(1)), "x"), dec("main", op("+", half, half)), with(dec("g", op("+", half, vr("f"))), dec("f", num(3))),
		dec("h", op("*", impl.Exp{K: impl.ECase, L: []impl.Exp{half}, Alts: alts}, impl.Exp{K: impl.ECase, L: []impl.Exp{num(5)}, Alts: alts})),
	)}
	p.Decs[2].E = vr("f")
	checkRun(t, "shared", p, impl.MaxFuel, "6")
	p.Decs[1].Name, p.Decs[3].Name = "h", "main"
	checkRun(t, "shared Alts", p, impl.MaxFuel, "15")
	p.Decs[3].Name, p.Decs[2].Name = "j", "main"
	checkRun(t, "a shared name", p, impl.MaxFuel, "3")
}

// What came of one Run is nothing to another.
func TestNothingIsKeptOfRuns(t *testing.T) {
	for range 3 {
		wantRuns(t, "", running{"let x = 1 + 2 in x * x", 8, "9"}, running{"let x = x in x", 4, "<hole>"})
		wantComes(t, runGiven, naming{"C 1 bad", "<hole>"}, naming{"C 1 N", "C 1 N"}, naming{"loop 1", "<fuel>"}, naming{"fail", "<fail>"})
		wantComes(t, "data L = N | C Int Int\n", naming{"C 1 2", "C 1 2"}, naming{"C 1", "<function>"})
	}
}
