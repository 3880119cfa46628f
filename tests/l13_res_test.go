package tests

import (
	"math"
	"reflect"
	"slices"
	"strconv"
	"strings"
	"testing"

	"loop.example/g00471/impl"
)

func resNum(n int) impl.Res { return impl.Res{K: impl.RNum, N: n} }

func resCon(s string, l ...impl.Res) impl.Res { return impl.Res{K: impl.RCon, S: s, L: l} }

// A resTold is a Res, and its text.
type resTold struct {
	r    impl.Res
	want string
}

func wantResText(t *testing.T, l ...resTold) {
	t.Helper()
	for _, c := range l {
		if got := impl.ResText(c.r); got != c.want {
			t.Errorf("ResText(%+v) = %q; want %q", c.r, got, c.want)
		}
	}
}

// ofEachKind are Res of each kind without parts, with their texts.
func ofEachKind() []resTold {
	return []resTold{
		{resNum(0), "0"}, {resNum(7), "7"}, {resCon("A"), "A"}, {resCon("True"), "True"}, {impl.Res{K: impl.RFun}, "<function>"}, {impl.Res{K: impl.RFail}, "<fail>"}, {impl.Res{K: impl.RHole}, "<hole>"}, {impl.Res{K: impl.RFuel}, "<fuel>"}, {impl.Res{K: impl.RMore}, "..."},
	}
}

func TestResTextOfEachKind(t *testing.T) {
	wantResText(t, ofEachKind()...)
	for _, a := range ofEachKind() {
		wantResText(t, resTold{resCon("C", a.r), "C " + a.want}, resTold{resCon("C", resCon("D", a.r)), "C (D " + a.want + ")"})
		for _, b := range ofEachKind() {
			wantResText(t, resTold{resCon("C", a.r, b.r), "C " + a.want + " " + b.want}, resTold{resCon("C", a.r, resCon("D", b.r, a.r), b.r), "C " + a.want + " (D " + b.want + " " + a.want + ") " + b.want})
		}
	}
}

func TestResTextOfNumbers(t *testing.T) {
	for _, n := range []int{1, 9, 10, 99, 1000, 123456, 999999, 1000000, 99999999, 999999998, 999999999} {
		s := strconv.Itoa(n)
		wantResText(t, resTold{resNum(n), s}, resTold{resNum(-n), "-" + s}, resTold{resCon("C", resNum(n)), "C " + s}, resTold{resCon("C", resNum(-n)), "C (-" + s + ")"})
		wantResText(t, resTold{resCon("C", resNum(-n), resNum(n), resNum(-n)), "C (-" + s + ") " + s + " (-" + s + ")"})
	}
	wantResText(t, resTold{resCon("C", resNum(-1), resNum(0), resNum(1)), "C (-1) 0 1"}, resTold{resCon("C", resCon("D", resNum(-1)), resNum(-1)), "C (D (-1)) (-1)"})
}

// Of a number that is out of bounds there is nothing, nor of all that it stands in.
func TestResTextOfNumbersOutOfBounds(t *testing.T) {
	for _, n := range []int{1000000000, 1000000001, 9999999999, math.MaxInt32, math.MaxUint32, math.MaxInt - 1, math.MaxInt} {
		for _, r := range []impl.Res{resNum(n), resNum(-n), resNum(math.MinInt), resNum(math.MinInt + 1)} {
			wantNothingWherever(t, r)
		}
	}
}

// wantNothingWherever is of what has no text: by itself, as a part at each place, and deeper down.
func wantNothingWherever(t *testing.T, r impl.Res) {
	t.Helper()
	one := resNum(1)
	wantResText(t, resTold{r, ""}, resTold{resCon("C", r), ""}, resTold{resCon("", r), ""}, resTold{resCon("C", r, one), ""}, resTold{resCon("C", one, r), ""}, resTold{resCon("C", one, r, one), ""}, resTold{resCon("C", r, r), ""})
	wantResText(t, resTold{resCon("C", resCon("D", r)), ""}, resTold{resCon("C", resCon("D", one, r), one), ""}, resTold{resCon("C", one, resCon("D", r, one)), ""}, resTold{resCon("C", one, resCon("D", one, resCon("D", one, resCon("D", one, r)))), ""})
	// What is not told may be anything.
	wantResText(t, resTold{impl.Res{K: impl.RFun, L: []impl.Res{r}}, "<function>"}, resTold{impl.Res{K: impl.RNum, N: -5, L: []impl.Res{r}}, "-5"}, resTold{resCon("C", impl.Res{K: impl.RMore, L: []impl.Res{r, one}}), "C (...)"})
}

// Brackets stand around what has parts, and around what begins with `-`, and nowhere else.
func TestResTextBrackets(t *testing.T) {
	n, one, less := resCon("N"), resNum(1), resNum(-1)
	wantResText(t,
		resTold{resCon("C", one, n), "C 1 N"}, resTold{resCon("C", less, n), "C (-1) N"}, resTold{resCon("C", one, resCon("C", less, n)), "C 1 (C (-1) N)"}, resTold{resCon("B", resCon("B", n, n), resCon("B", n, n)), "B (B N N) (B N N)"}, resTold{resCon("B", n, resCon("D", resCon("D", less))), "B N (D (D (-1)))"},
		// Names that are none: what begins with `-` is in brackets, whatever it is.
		resTold{resCon("-"), "-"}, resTold{resCon("C", resCon("-")), "C (-)"}, resTold{resCon("C", resCon("-a")), "C (-a)"}, resTold{resCon("C", resCon("a-")), "C a-"}, resTold{resCon("C", resCon("-", one)), "C (- 1)"}, resTold{resCon("", one), " 1"}, resTold{resCon("C", resCon("", one)), "C ( 1)"}, resTold{resCon("", less), " (-1)"}, resTold{resCon("C", resCon("-", less), resCon("--x", n)), "C (- (-1)) (--x N)"},
		// What has parts that its kind does not tell has parts all the same.
		resTold{impl.Res{K: impl.RNum, N: 5, L: []impl.Res{one}}, "5"}, resTold{resCon("C", impl.Res{K: impl.RNum, N: 5, L: []impl.Res{one}}), "C (5)"}, resTold{resCon("C", impl.Res{K: impl.RFun, L: []impl.Res{one}}, n), "C (<function>) N"}, resTold{resCon("C", impl.Res{K: impl.RMore, L: []impl.Res{{}}}), "C (...)"},
		// A number or a name that its kind does not tell is not told.
		resTold{impl.Res{K: impl.RNum, N: 5, S: "x"}, "5"}, resTold{impl.Res{K: impl.RCon, N: -5, S: "x"}, "x"}, resTold{impl.Res{K: impl.RFun, N: -5, S: "x"}, "<function>"}, resTold{resCon("C", impl.Res{K: impl.RCon, N: -5, S: "x"}), "C x"},
		resTold{impl.Res{K: impl.RCon, S: "C", L: []impl.Res{}}, "C"}, resTold{resCon("C", impl.Res{K: impl.RCon, S: "D", L: []impl.Res{}}), "C D"},
	)
}

// Of others there is nothing, nor of all that they stand in.
func TestResTextOfOthers(t *testing.T) {
	for _, k := range []int{math.MinInt, -7, -1, 0, 8, 9, 100, math.MaxInt32 + 1, math.MaxUint32 + 2, math.MaxInt} {
		for _, r := range []impl.Res{{K: k}, {K: k, S: "x", N: 4}, {K: k, S: "-", N: -4}, {K: k, L: []impl.Res{resNum(1)}}, {K: k, L: []impl.Res{{}}}} {
			wantNothingWherever(t, r)
		}
	}
	wantNothingWherever(t, impl.Res{})
}

// A Con without a name has a text: the empty name, and its parts.
func TestResTextOfConsWithoutAName(t *testing.T) {
	none, one, less := resCon(""), resNum(1), resNum(-5)
	wantResText(t,
		// By itself.
		resTold{none, ""}, resTold{resCon("", none), " "}, resTold{resCon("", none, none), "  "}, resTold{resCon("", one), " 1"}, resTold{resCon("", less), " (-5)"}, resTold{resCon("", resCon("A")), " A"}, resTold{resCon("", resCon("A", one)), " (A 1)"},
		// The first, a middle and the last part.
		resTold{resCon("A", none), "A "}, resTold{resCon("A", none, none), "A  "}, resTold{resCon("A", none, none, none), "A   "}, resTold{resCon("A", none, one), "A  1"}, resTold{resCon("A", one, none), "A 1 "}, resTold{resCon("A", one, none, resCon("B")), "A 1  B"}, resTold{resCon("A", none, less), "A  (-5)"}, resTold{resCon("A", less, none), "A (-5) "},
		// With parts it has brackets, like any other.
		resTold{resCon("A", resCon("", none)), "A ( )"}, resTold{resCon("A", resCon("", one)), "A ( 1)"}, resTold{resCon("A", resCon("", less, none), one), "A ( (-5) ) 1"}, resTold{resCon("A", one, resCon("", none, one), resCon("B")), "A 1 (  1) B"}, resTold{resCon("A", one, resCon("", none)), "A 1 ( )"},
		// Deeper down.
		resTold{resCon("A", resCon("B", none)), "A (B )"}, resTold{resCon("A", resCon("B", none, one), none), "A (B  1) "}, resTold{resCon("", resCon("", none)), " ( )"}, resTold{resCon("", resCon("", resCon("", none))), " ( ( ))"}, resTold{resCon("", resCon("B", none)), " (B )"}, resTold{resCon("A", resCon("B", resCon("C", one, none, one))), "A (B (C 1  1))"},
		// What the kind does not tell is not told.
		resTold{impl.Res{K: impl.RCon, N: 7, L: []impl.Res{}}, ""}, resTold{resCon("A", impl.Res{K: impl.RCon, N: 7, L: []impl.Res{}}), "A "}, resTold{resCon("A", impl.Res{K: impl.RFun, L: []impl.Res{none}}), "A (<function>)"},
	)
}

// Beside what there is nothing of, there is nothing of the whole.
func TestResTextOfNoNameBesideNothing(t *testing.T) {
	empty := []impl.Res{resCon(""), resCon("", resCon("")), resCon("", resNum(1)), resCon("B", resCon(""))}
	for _, none := range []impl.Res{{}, {K: 8}, {K: -1, S: "x"}, resNum(1000000000), resNum(-1000000000), resNum(math.MinInt), resNum(math.MaxInt)} {
		wantNothingWherever(t, none)
		wantNothingWherever(t, resCon("", none))
		for _, e := range empty {
			wantResText(t, resTold{resCon("A", e, none), ""}, resTold{resCon("A", none, e), ""}, resTold{resCon("", e, none), ""}, resTold{resCon("", none, e), ""}, resTold{resCon("A", e, none, e), ""}, resTold{resCon("A", none, e, none), ""})
			wantResText(t, resTold{resCon("A", e, resCon("", none)), ""}, resTold{resCon("A", resCon("", none), e), ""}, resTold{resCon("", resCon("", e, none)), ""}, resTold{resCon("A", e, resCon("B", resCon("", none, e))), ""})
		}
	}
}

// A Con without a name is as deep as any other: the deepest one, those around it, and all of them.
func TestResTextOfNoNameDeep(t *testing.T) {
	wantResText(t,
		resTold{nestedIn("S", 6, ""), "S (S (S (S (S ))))"}, resTold{nestedIn("S", 7, ""), ""}, resTold{nestedIn("", 6, "S"), " ( ( ( ( S))))"}, resTold{nestedIn("", 7, "S"), ""}, resTold{nestedIn("", 6, ""), " ( ( ( ( ))))"}, resTold{nestedIn("", 7, ""), ""}, resTold{nestedIn("", 2, ""), " "},
	)
	for deep := 1; deep <= 9; deep++ {
		for _, name := range []string{"", "S"} {
			for _, end := range []string{"", "E"} {
				r := nestedIn(name, deep, end)
				text, _, _ := resTextByHand(r)
				wantResText(t, resTold{r, text})
				wantDepth(t, r, deep)
				wantDeepAnywhere(t, r)
			}
		}
	}
}

// nestedIn is so deep: a Con end in those of the name.
func nestedIn(name string, deep int, end string) impl.Res {
	r := resCon(end)
	for range deep - 1 {
		r = resCon(name, r)
	}
	return r
}

// wantDeepAnywhere is of a part which is first, in the middle or last of what it is of, beside others that are not as deep.
func wantDeepAnywhere(t *testing.T, r impl.Res) {
	t.Helper()
	l := []impl.Res{r, resNum(1), resCon("D", resNum(2))}
	deep := max(impl.Depth(r)+1, 3)
	for i := range l {
		part := slices.Concat(l[1:i+1], l[:1], l[i+1:])
		text, _, _ := resTextByHand(resCon("B", part...))
		if got := impl.ResText(resCon("B", part...)); got != text || (text == "") != (deep > 6) {
			t.Errorf("ResText of B and %+v = %q; want %q, %d deep", part, got, text, deep)
		}
		wantDepth(t, resCon("B", part...), deep)
	}
}

// What is 6 deep is told, and of what is deeper there is nothing, wherever it is so deep and of whatever kind.
func TestResTextDeep(t *testing.T) {
	chain := func(deep int, end impl.Res) (impl.Res, string) {
		text := impl.ResText(end)
		for i := range deep - 1 {
			if i > 0 {
				text = "(" + text + ")"
			}
			end, text = resCon("A", end), "A "+text
		}
		return end, text
	}
	for _, end := range ofEachKind() {
		for deep := 1; deep <= 9; deep++ {
			r, text := chain(deep, end.r)
			if deep > 6 {
				text = ""
			}
			wantResText(t, resTold{r, text})
			if deep > 1 {
				wantDeepAnywhere(t, r.L[0])
			}
		}
	}
	deep := nestedRes(6, resNum(1))
	for _, k := range []int{-1, 0, 1, 2, 3, 4, 5, 6, 7, 8} {
		wantResText(t, resTold{impl.Res{K: k, S: "A", L: []impl.Res{resNum(1), deep}}, ""}, resTold{resCon("A", impl.Res{K: k, L: deep.L[1].L}, deep.L[1]), ""})
	}
	// What is deep within what is not told counts, too.
	inside := impl.Res{K: impl.RFun, L: deep.L}
	wantResText(t, resTold{inside, ""}, resTold{impl.Res{K: impl.RFun, L: deep.L[1].L}, "<function>"})
	for got := 4; got <= 8; got++ {
		r := resCon("A", nestedRes(got-2, resNum(1)))
		if (impl.ResText(r) == "") != (got > 6) || impl.Depth(r) != got {
			t.Errorf("%d deep: %q, by Depth %d", got, impl.ResText(r), impl.Depth(r))
		}
	}
}

func TestResTextFarTooDeepOrTooWide(t *testing.T) {
	wantResText(t, resTold{nestedRes(1000000, resNum(1)), ""})
	for _, r := range ringRes() {
		wantResText(t, resTold{resCon("B", resNum(1), r), ""})
	}
	a := resNum(1)
	for range 100 {
		a = resCon("A", a, a)
	}
	wantResText(t, resTold{a, ""})
	const many = 300000
	wide := resCon("A", slices.Repeat([]impl.Res{resNum(-1)}, many)...)
	wantResText(t, resTold{wide, "A" + strings.Repeat(" (-1)", many)})
	wantResText(t, resTold{resCon("", slices.Repeat([]impl.Res{resCon("")}, many)...), strings.Repeat(" ", many)})
	// A wide list at each of many places: deeper than is told, and with nothing to tell at the bottom.
	for range 8 {
		wide = resCon("A", slices.Repeat([]impl.Res{wide}, many)...)
	}
	wantResText(t, resTold{wide, ""})
	for _, none := range []impl.Res{{}, resNum(1000000000), resCon("", impl.Res{})} {
		wide = resCon("A", append(slices.Repeat([]impl.Res{resNum(1)}, many), none)...)
		for range 4 {
			wantResText(t, resTold{wide, ""})
			wide = resCon("A", slices.Repeat([]impl.Res{wide}, many)...)
		}
	}
	long := strings.Repeat("x", 1<<20)
	wantResText(t, resTold{resCon(long, resCon(long)), long + " " + long})
}

// Of what no memory can hold there is nothing, so that the call ends.
func TestResTextOfMoreThanMemoryHolds(t *testing.T) {
	r := resNum(1)
	for range 5 {
		r = resCon("A", slices.Repeat([]impl.Res{r}, 100000)...)
	}
	wantResText(t, resTold{r, ""})
	wantDepth(t, r, 6)
	long := resCon(strings.Repeat("x", 1<<20))
	wantResText(t, resTold{resCon("A", slices.Repeat([]impl.Res{long}, 1<<16+1)...), ""})
	few := slices.Repeat([]impl.Res{long}, 16)
	wantResText(t, resTold{resCon("A", few...), "A" + strings.Repeat(" "+long.S, 16)})
}

// ringRes are Res that stand in themselves.
func ringRes() []impl.Res {
	ring := make([]impl.Res, 3)
	ring[0], ring[1], ring[2] = resNum(1), resCon("A", ring...), impl.Res{K: impl.RFun, L: ring}
	ring[1].L = ring
	own := []impl.Res{{K: impl.RCon, S: "A"}}
	own[0].L = own
	long := make([]impl.Res, 1000)
	for i := range long {
		j := (i + 1) % len(long)
		long[i] = resCon("A", resNum(i), resNum(-1))
		long[i].L = append(long[i].L[:1:1], impl.Res{K: impl.RCon, S: "B", L: long[j : j+1]})
	}
	return append(ring[1:], own[0], long[0], long[999])
}

func wantDepth(t *testing.T, r impl.Res, want int) {
	t.Helper()
	if got := impl.Depth(r); got != want {
		t.Errorf("Depth of %d parts = %d; want %d", len(r.L), got, want)
	}
}

// Depth counts all parts, whatever the kind of what they are of.
func TestDepthOfEachKind(t *testing.T) {
	wantDepth(t, impl.Res{}, 1)
	for _, k := range []int{math.MinInt, -7, -1, 0, 1, 2, 3, 4, 5, 6, 7, 8, 100, math.MaxInt} {
		x := impl.Res{K: k, S: "A", N: -7}
		wantDepth(t, impl.Res{K: k}, 1)
		wantDepth(t, x, 1)
		wantDepth(t, impl.Res{K: k, L: []impl.Res{}}, 1)
		for deep := 2; deep < 20; deep++ {
			x = impl.Res{K: k, S: "A", L: []impl.Res{x}}
			wantDepth(t, x, deep)
			wantDepth(t, impl.Res{K: k, L: []impl.Res{resNum(1), {}, x}}, deep+1)
			wantDepth(t, impl.Res{K: k, L: []impl.Res{resNum(1), x, {}}}, deep+1)
			wantDepth(t, impl.Res{K: k, L: []impl.Res{x, resCon("A"), x.L[0]}}, deep+1)
		}
	}
	// Empty lists are no parts.
	wantDepth(t, resCon("A", impl.Res{K: impl.RCon, L: []impl.Res{}}), 2)
	wantDepth(t, impl.Res{K: impl.RCon, L: make([]impl.Res, 0, 5)}, 1)
}

func TestDepthFarTooDeepOrTooWide(t *testing.T) {
	const many = 1000000
	wantDepth(t, nestedRes(many, resNum(1)), many+1)
	wantDepth(t, nestedRes(many, impl.Res{}), many+1)
	wantDepth(t, nestedRes(many, resCon("A", resNum(1))), many+2)
	wantDepth(t, resCon("A", slices.Repeat([]impl.Res{resNum(1)}, many)...), 2)
	wide := make([]impl.Res, many)
	for i := range wide {
		wide[i] = resCon("A", resNum(i))
	}
	wide[many/2] = nestedRes(7, resNum(1))
	wantDepth(t, resCon("A", wide...), 9)
	a := resNum(1)
	for i := range 1000 {
		wantDepth(t, a, i+1)
		a = impl.Res{K: i % 9, L: []impl.Res{a, a}}
	}
	// Each stands in all that are ahead of it: as deep as there are lists, with ways of each length.
	const lists = 1000
	all := make([]impl.Res, lists)
	for i := range all {
		all[i] = resCon("A", all[:i]...)
	}
	wantDepth(t, all[lists-1], lists)
	slices.Reverse(all)
	for i := range all {
		all[i].L = all[i+1:]
	}
	wantDepth(t, all[0], lists)
	// Short ways to what is deep, at each depth.
	short := nestedRes(100, resNum(1))
	for i := range many / 10 {
		short = resCon("A", short, short.L[0], resCon("B", short.L[1]))
		if i%10000 == 0 {
			wantDepth(t, short, i+102)
		}
	}
}

// What stands in itself has no end: the greatest int, as with Size.
func TestDepthOfWhatGoesRound(t *testing.T) {
	for _, r := range ringRes() {
		wantDepth(t, r, math.MaxInt)
		wantDepth(t, resCon("A", resNum(1), r), math.MaxInt)
		wantDepth(t, nestedRes(50, r), math.MaxInt)
	}
	// A piece of a list that goes round, which does not itself.
	l := []impl.Res{resNum(1), resCon("A", resNum(2)), {}}
	l[2] = resCon("A", l...)
	l[2].L = l[:2]
	wantDepth(t, l[2], 3)
	wantDepth(t, resCon("A", l...), 4)
	l[2].L = l[2:]
	wantDepth(t, l[2], math.MaxInt)
	wantDepth(t, l[1], 2)
	wantDepth(t, resCon("A", l[:2]...), 3)
}

// What comes of a Run has a text, which tells all of it.
func TestResTextOfRuns(t *testing.T) {
	for _, c := range []naming{
		{"C (0 - 1) (C 2 N)", "C (-1) (C 2 N)"}, {"E i (1 < 2) (0 - 999999) (B (D 1) A)", "E <function> True (-999999) (B (D 1) A)"}, {"let l = C 1 l in l", "C 1 (C 1 (C 1 (C ... ...)))"}, {"B (B (B (B A A) A) A) A", "B (B (B (B ... ...) A) A) A"}, {"0 - 999999", "-999999"},
	} {
		checkRun(t, c.text, progRead(t, runGiven+"main = "+c.text), impl.MaxFuel, c.names)
	}
}

// Nothing is written into an argument, nor behind it; an answer hangs on neither what is behind nor what was asked ahead.
func TestResTextWritesNothing(t *testing.T) {
	for _, c := range []resTold{
		{someRes(), ""}, {someRes().L[1], "A <function> (...)"}, {resCon("C", someRes().L[:3]...), "C (-4) (A <function> (...)) <fail>"}, {resCon("C", resNum(-1), resCon("D")), "C (-1) D"}, {nestedRes(5, resNum(-7)), "A 0 (A 0 (A 0 (A 0 (A 0 (-7)))))"}, {nestedRes(6, resNum(-7)), ""},
	} {
		r := roomy(reflect.ValueOf(c.r)).Interface().(impl.Res)
		kept := toldWithRoom(reflect.ValueOf(r))
		deep := impl.Depth(c.r)
		for range 3 {
			if text := impl.ResText(r); text != c.want {
				t.Errorf("ResText(%+v) = %q; want %q", c.r, text, c.want)
			}
			wantDepth(t, r, deep)
			impl.ResText(resCon("X", resNum(-9), resCon("Y", resNum(9))))
		}
		if toldWithRoom(reflect.ValueOf(r)) != kept {
			t.Errorf("ResText or Depth writes into %+v", c.r)
		}
	}
}
