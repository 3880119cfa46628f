package tests

import (
	"fmt"
	"math/rand"
	"regexp"
	"strings"
	"testing"

	"loop.example/g00471/impl"
)

// resTextByHand answers the text of r, how deep it is, and whether it is told: from the bottom up, and with each part in
// brackets unless it needs none.
func resTextByHand(r impl.Res) (text string, deep int, told bool) {
	text, told = headByHand(r)
	deep = 1
	for _, part := range r.L {
		below, partDeep, partTold := resTextByHand(part)
		deep = max(deep, partDeep+1)
		if r.K != impl.RCon {
			continue
		}
		told = told && partTold
		if len(part.L) == 0 && !strings.HasPrefix(below, "-") {
			text += " " + below
		} else {
			text += " (" + below + ")"
		}
	}
	if !told || deep > 6 {
		return "", deep, false
	}
	return text, deep, true
}

func headByHand(r impl.Res) (text string, told bool) {
	if r.K == impl.RNum && r.N*r.N < 1000000000*1000000000 && r.N < 1<<31 && r.N > -1<<31 {
		return fmt.Sprint(r.N), true
	}
	if r.K == impl.RCon {
		return r.S, true
	}
	text, told = map[int]string{impl.RFun: "<function>", impl.RFail: "<fail>", impl.RHole: "<hole>", impl.RFuel: "<fuel>", impl.RMore: "..."}[r.K]
	return text, told
}

// anyRes is at most so deep. Now and then it is of no kind, out of bounds, or has more in it than its kind tells.
func anyRes(g *rand.Rand, deep int) impl.Res {
	r := impl.Res{K: impl.RCon, S: []string{"A", "B", "Cons", "N", "True"}[g.Intn(5)]}
	if deep <= 1 || g.Intn(5) == 0 {
		r.K = 1 + g.Intn(7)
	}
	if r.K != impl.RCon {
		r.S = ""
	}
	if r.K == impl.RNum {
		r.N = []int{0, 1, -1, 7, -7, 999999, -999999, 999999999, -999999999, g.Intn(2000) - 1000}[g.Intn(10)]
	}
	if odd := g.Intn(200); odd == 0 {
		r.K = []int{0, 8, -1}[g.Intn(3)]
	} else if odd == 1 {
		r.N = []int{1000000000, -1000000000, 1 << 62, -1 << 63}[g.Intn(4)]
	} else if odd == 2 {
		r.S = []string{"", "-", "-x", "a b", "("}[g.Intn(5)]
	} else if odd < 8 {
		r = resCon("")
	}
	if deep > 1 && (r.K == impl.RCon || g.Intn(20) == 0) {
		for range g.Intn(4) {
			r.L = append(r.L, anyRes(g, deep-1))
		}
	}
	return r
}

// checkResByHand holds the text and the depth of r against those by hand, and P13 of it.
func checkResByHand(t *testing.T, r impl.Res) (string, int) {
	t.Helper()
	text, deep := impl.ResText(r), impl.Depth(r)
	wantText, wantDeep, _ := resTextByHand(r)
	if text != wantText || deep != wantDeep {
		t.Fatalf("of %+v the text is %q, and it is %d deep; by hand %q and %d", r, text, deep, wantText, wantDeep)
	}
	if text != "" && deep > 6 || deep > 6 != (wantDeep > 6) {
		t.Fatalf("%+v is %d deep, and told as %q", r, deep, text)
	}
	return text, deep
}

// P13, of Res made by hand.
func TestAResultIsNoDeeperThanItIsTold(t *testing.T) {
	g := rand.New(rand.NewSource(13))
	tolds, nothings := map[int]int{}, map[int]int{}
	for range 40000 {
		text, deep := checkResByHand(t, anyRes(g, 1+g.Intn(9)))
		if text != "" {
			tolds[deep]++
		} else {
			nothings[deep]++
		}
	}
	for deep := 1; deep <= 9; deep++ {
		if deep <= 6 && tolds[deep] < 300 || nothings[deep] < 20 || deep > 6 && tolds[deep] > 0 {
			t.Error("too few, or what is too deep:", deep, tolds, nothings)
		}
	}
}

// P13, of what programs come to: 4 deep, or 5 with what was not asked for. Each has a text, with its brackets closed.
func TestWhatProgramsComeToIsTold(t *testing.T) {
	g := progMaker{rand.New(rand.NewSource(1313)), 1000}
	right := regexp.MustCompile(`^(-?[0-9]+|<(function|fail|hole|fuel)>|[A-Z]\w*( (\(.*\)|[0-9]+|<function>|\.\.\.|[A-Z]\w*))*)$`)
	deeps, below := map[int]int{}, 0
	for range 1500 {
		p := anyProg(t, g)
		for _, fuel := range []int{g.Intn(100), g.Intn(1000), impl.MaxFuel} {
			r := impl.Run(p, fuel)
			text, deep := checkResByHand(t, r)
			if !right.MatchString(text) || deep > 5 {
				t.Fatalf("%s comes to %+v, which is told as %q, and is %d deep", impl.ProgText(p), r, text, deep)
			}
			deeps[deep]++
			if regexp.MustCompile(`\(-`).MatchString(text) {
				below++
			}
		}
	}
	for deep := 1; deep <= 5; deep++ {
		if deeps[deep] < 10 {
			t.Error("too few to tell", deeps)
		}
	}
	if below < 20 {
		t.Error("too few with parts below 0:", below)
	}
}
