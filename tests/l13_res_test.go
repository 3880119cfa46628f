package tests

import (
	"math"
	"slices"
	"strconv"
	"strings"
	"testing"

	"loop.example/g00471/impl"
)

func resNum(n int) impl.Res { return impl.Res{K: impl.RNum, N: n} }

func resCon(s string, l ...impl.Res) impl.Res { return impl.Res{K: impl.RCon, S: s, L: l} }

// A resTold is a Res, and its text.
type resTold struct {
	r    impl.Res
	want string
}

func wantResText(t *testing.T, l ...resTold) {
	t.Helper()
	for _, c := range l {
		if got := impl.ResText(c.r); got != c.want {
			t.Errorf("ResText(%+v) = %q; want %q", c.r, got, c.want)
		}
	}
}

// ofEachKind are Res of each kind without parts, with their texts.
func ofEachKind() []resTold {
	return []resTold{
		{resNum(0), "0"}, {resNum(7), "7"}, {resCon("A"), "A"}, {resCon("True"), "True"}, {impl.Res{K: impl.RFun}, "<function>"}, {impl.Res{K: impl.RFail}, "<fail>"}, {impl.Res{K: impl.RHole}, "<hole>"}, {impl.Res{K: impl.RFuel}, "<fuel>"}, {impl.Res{K: impl.RMore}, "..."},
	}
}

func TestResTextOfEachKind(t *testing.T) {
	wantResText(t, ofEachKind()...)
	for _, a := range ofEachKind() {
		wantResText(t, resTold{resCon("C", a.r), "C " + a.want}, resTold{resCon("C", resCon("D", a.r)), "C (D " + a.want + ")"})
		for _, b := range ofEachKind() {
			wantResText(t, resTold{resCon("C", a.r, b.r), "C " + a.want + " " + b.want}, resTold{resCon("C", a.r, resCon("D", b.r, a.r), b.r), "C " + a.want + " (D " + b.want + " " + a.want + ") " + b.want})
		}
	}
}

func TestResTextOfNumbers(t *testing.T) {
	for _, n := range []int{1, 9, 10, 99, 1000, 123456, 999999, 1000000, 99999999, 999999998, 999999999} {
		s := strconv.Itoa(n)
		wantResText(t, resTold{resNum(n), s}, resTold{resNum(-n), "-" + s}, resTold{resCon("C", resNum(n)), "C " + s}, resTold{resCon("C", resNum(-n)), "C (-" + s + ")"})
		wantResText(t, resTold{resCon("C", resNum(-n), resNum(n), resNum(-n)), "C (-" + s + ") " + s + " (-" + s + ")"})
	}
	for _, n := range []int{1000000000, 1000000001, 9999999999, math.MaxInt - 1, math.MaxInt} {
		wantResText(t, resTold{resNum(n), ""}, resTold{resNum(-n), ""})
	}
	wantResText(t, resTold{resNum(math.MinInt), ""}, resTold{resNum(math.MinInt + 1), ""})
}

// Brackets stand around what has parts, and around what begins with `-`, and nowhere else.
func TestResTextBrackets(t *testing.T) {
	n, one, less := resCon("N"), resNum(1), resNum(-1)
	wantResText(t,
		resTold{resCon("C", one, n), "C 1 N"}, resTold{resCon("C", less, n), "C (-1) N"}, resTold{resCon("C", one, resCon("C", less, n)), "C 1 (C (-1) N)"}, resTold{resCon("B", resCon("B", n, n), resCon("B", n, n)), "B (B N N) (B N N)"}, resTold{resCon("B", n, resCon("D", resCon("D", less))), "B N (D (D (-1)))"},
		// Names that are none: what begins with `-` is in brackets, whatever it is.
		resTold{resCon("-"), "-"}, resTold{resCon("C", resCon("-")), "C (-)"}, resTold{resCon("C", resCon("-a")), "C (-a)"}, resTold{resCon("C", resCon("a-")), "C a-"}, resTold{resCon("C", resCon("-", one)), "C (- 1)"}, resTold{resCon("", one), " 1"}, resTold{resCon("C", resCon("")), "C "}, resTold{resCon("C", resCon("", one)), "C ( 1)"}, resTold{resCon(""), ""},
		// What has parts that its kind does not tell has parts all the same.
		resTold{impl.Res{K: impl.RNum, N: 5, L: []impl.Res{one}}, "5"}, resTold{resCon("C", impl.Res{K: impl.RNum, N: 5, L: []impl.Res{one}}), "C (5)"}, resTold{resCon("C", impl.Res{K: impl.RFun, L: []impl.Res{one}}, n), "C (<function>) N"}, resTold{resCon("C", impl.Res{K: impl.RMore, L: []impl.Res{{}}}), "C (...)"},
		// A number or a name that its kind does not tell is not told.
		resTold{impl.Res{K: impl.RNum, N: 5, S: "x"}, "5"}, resTold{impl.Res{K: impl.RCon, N: -5, S: "x"}, "x"}, resTold{impl.Res{K: impl.RFun, N: -5, S: "x"}, "<function>"}, resTold{resCon("C", impl.Res{K: impl.RCon, N: -5, S: "x"}), "C x"},
		resTold{impl.Res{K: impl.RCon, S: "C", L: []impl.Res{}}, "C"}, resTold{resCon("C", impl.Res{K: impl.RCon, S: "D", L: []impl.Res{}}), "C D"},
	)
}

// Of others there is nothing, and so a part of that kind is a blank and nothing.
func TestResTextOfOthers(t *testing.T) {
	for _, k := range []int{math.MinInt, -7, -1, 0, 8, 9, 100, math.MaxInt} {
		x := impl.Res{K: k, S: "x", N: 4}
		wantResText(t, resTold{impl.Res{K: k}, ""}, resTold{x, ""}, resTold{impl.Res{K: k, L: []impl.Res{resNum(1)}}, ""}, resTold{resCon("C", x), "C "}, resTold{resCon("C", x, resNum(1)), "C  1"}, resTold{resCon("C", impl.Res{K: k, L: []impl.Res{resNum(1)}}), "C ()"})
	}
	wantResText(t, resTold{impl.Res{}, ""}, resTold{resCon("C", resNum(1000000000), resNum(1)), "C  1"}, resTold{resCon("C", resNum(-1000000000)), "C "})
}

// What is 6 deep is told, and of what is deeper there is nothing, wherever it is so deep and of whatever kind.
func TestResTextDeep(t *testing.T) {
	chain := func(deep int, end impl.Res) (impl.Res, string) {
		text := impl.ResText(end)
		for i := range deep - 1 {
			if i > 0 {
				text = "(" + text + ")"
			}
			end, text = resCon("A", end), "A "+text
		}
		return end, text
	}
	for _, end := range ofEachKind() {
		for deep := 1; deep <= 9; deep++ {
			r, text := chain(deep, end.r)
			if deep > 6 {
				text = ""
			}
			wantResText(t, resTold{r, text})
			if deep > 1 {
				wantResText(t, resTold{resCon("B", r.L[0], resNum(1)), strings.Replace(text, "A", "B", 1) + map[bool]string{true: " 1"}[text != ""]})
			}
		}
	}
	deep := nestedRes(6, resNum(1))
	for _, k := range []int{-1, 0, 1, 2, 3, 4, 5, 6, 7, 8} {
		wantResText(t, resTold{impl.Res{K: k, S: "A", L: []impl.Res{resNum(1), deep}}, ""}, resTold{resCon("A", impl.Res{K: k, L: deep.L[1].L}, deep.L[1]), ""})
	}
	// What is deep within what is not told counts, too.
	inside := impl.Res{K: impl.RFun, L: deep.L}
	wantResText(t, resTold{inside, ""}, resTold{impl.Res{K: impl.RFun, L: deep.L[1].L}, "<function>"})
}

func TestResTextFarTooDeepOrTooWide(t *testing.T) {
	wantResText(t, resTold{nestedRes(300000, resNum(1)), ""})
	ring := make([]impl.Res, 3)
	ring[0], ring[1], ring[2] = resNum(1), resCon("A", ring...), impl.Res{K: impl.RFun, L: ring}
	ring[1].L = ring
	wantResText(t, resTold{ring[1], ""}, resTold{ring[2], ""}, resTold{resCon("B", ring...), ""})
	a := resNum(1)
	for range 100 {
		a = resCon("A", a, a)
	}
	wantResText(t, resTold{a, ""})
	const many = 300000
	wide := resCon("A", slices.Repeat([]impl.Res{resNum(-1)}, many)...)
	wantResText(t, resTold{wide, "A" + strings.Repeat(" (-1)", many)})
	// A wide list at each of many places, deeper than is told.
	for range 8 {
		wide = resCon("A", slices.Repeat([]impl.Res{wide}, many)...)
	}
	wantResText(t, resTold{wide, ""})
	long := strings.Repeat("x", 1<<20)
	wantResText(t, resTold{resCon(long, resCon(long)), long + " " + long})
}

// What comes of a Run has a text, which tells all of it.
func TestResTextOfRuns(t *testing.T) {
	for _, c := range []naming{
		{"C (0 - 1) (C 2 N)", "C (-1) (C 2 N)"}, {"E i (1 < 2) (0 - 999999) (B (D 1) A)", "E <function> True (-999999) (B (D 1) A)"}, {"let l = C 1 l in l", "C 1 (C 1 (C 1 (C ... ...)))"}, {"B (B (B (B A A) A) A) A", "B (B (B (B ... ...) A) A) A"}, {"0 - 999999", "-999999"},
	} {
		checkRun(t, c.text, progRead(t, runGiven+"main = "+c.text), impl.MaxFuel, c.names)
	}
	for range 3 {
		r := someRes()
		kept := told(r)
		if impl.ResText(r) != "Cons (-4) (A <function> (...)) <fail> ()" || told(r) != kept {
			t.Errorf("ResText = %q", impl.ResText(r))
		}
	}
}
