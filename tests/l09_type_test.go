package tests

import (
	"math"
	"math/rand"
	"reflect"
	"slices"
	"strconv"
	"strings"
	"testing"

	"loop.example/g00471/impl"
)

func tyVar(n int) impl.Ty { return impl.Ty{K: impl.TVar, N: n} }

func tyList(k int, l ...impl.Ty) impl.Ty { return impl.Ty{K: k, L: l} }

// ty reads a type by the text of TyText; `t-1` is of a number below 0, `?` of no kind at all, `?9` of that kind.
func ty(s string) impl.Ty {
	left := strings.Fields(strings.NewReplacer("(", " ( ", ")", " ) ").Replace(s))
	read := readTy(&left)
	if len(left) > 0 {
		panic("no type: " + s)
	}
	return read
}

func readTy(left *[]string) impl.Ty {
	first := readTyAtom(left)
	if len(*left) > 0 && (*left)[0] == "->" {
		*left = (*left)[1:]
		return tyFun(first, readTy(left))
	}
	return first
}

func readTyAtom(left *[]string) impl.Ty {
	s := (*left)[0]
	*left = (*left)[1:]
	n, err := strconv.Atoi(s[1:])
	switch {
	case s == "(":
		within := readTy(left)
		*left = (*left)[1:]
		return within
	case s == "Int":
		return tyInt()
	case s == "Bool":
		return tyBool()
	case s[0] == '?':
		return impl.Ty{K: n}
	case s[0] == 't' && err == nil:
		return tyVar(n)
	}
	return tyData(s)
}

func tys(texts ...string) []impl.Ty {
	l := []impl.Ty{}
	for _, s := range texts {
		l = append(l, ty(s))
	}
	return l
}

// table reads what is known, with `;` between; `?` is not known.
func table(s string) []impl.Ty {
	if s == "" {
		return nil
	}
	return tys(strings.Split(s, ";")...)
}

func wantTy(t *testing.T, what string, got, want impl.Ty) {
	t.Helper()
	if told(got) != told(want) {
		t.Errorf("%s = %s; want %s", what, told(got), told(want))
	}
}

func wantTyText(t *testing.T, ty impl.Ty, want string) {
	t.Helper()
	if got := impl.TyText(ty); got != want {
		t.Errorf("TyText(%s) = %q; want %q", told(ty), got, want)
	}
}

// A knowing is a type, and what it is as far as a table knows it.
type knowing struct{ text, known string }

func wantKnown(t *testing.T, l []impl.Ty, all ...knowing) {
	t.Helper()
	for _, c := range all {
		wantTy(t, "Known("+told(l)+", "+c.text+")", impl.Known(l, ty(c.text)), ty(c.known))
	}
}

// eachKnown tells of each number of a table what it is, as far as that is known.
func eachKnown(l []impl.Ty) string {
	texts := []string{}
	for n := range l {
		texts = append(texts, impl.TyText(impl.Known(l, tyVar(n))))
	}
	return strings.Join(texts, "; ")
}

// wantUnified is handed what each number of the table that comes of it is, as far as that is known.
func wantUnified(t *testing.T, l []impl.Ty, a, b impl.Ty, want string) {
	t.Helper()
	out, ok := impl.Unify(l, a, b)
	if !ok || eachKnown(out) != want {
		t.Errorf("Unify(%s, %s, %s) = %q, %v; want %q", told(l), told(a), told(b), eachKnown(out), ok, want)
	}
	checkUnified(t, l, a, b)
}

func wantNotUnified(t *testing.T, l []impl.Ty, a, b impl.Ty) {
	t.Helper()
	if out, ok := impl.Unify(l, a, b); ok || told(out) != told(l) {
		t.Errorf("Unify(%s, %s, %s) = %s, %v", told(l), told(a), told(b), told(out), ok)
	}
}

// checkUnified holds P9 of one table and two types: whatever was made the same is. It answers whether it was.
func checkUnified(t *testing.T, l []impl.Ty, a, b impl.Ty) bool {
	t.Helper()
	out, ok := impl.Unify(l, a, b)
	if !ok && told(out) != told(l) {
		t.Errorf("Unify(%s, %s, %s): not the table as it was: %s", told(l), told(a), told(b), told(out))
	}
	if ok && !impl.SameTy(impl.Known(out, a), impl.Known(out, b)) {
		t.Errorf("Unify(%s, %s, %s) = %s, but they are %s and %s", told(l), told(a), told(b), told(out), told(impl.Known(out, a)), told(impl.Known(out, b)))
	}
	return ok
}

func TestNumbersOfTypes(t *testing.T) {
	kinds := []int{impl.TInt, impl.TBool, impl.TData, impl.TFun, impl.TVar, impl.MaxVars}
	if !slices.Equal(kinds, []int{1, 2, 3, 4, 5, 500}) {
		t.Error(kinds)
	}
}

// kindTexts are types of each kind, no two of them the same.
func kindTexts() []string {
	return []string{"Int", "Bool", "L", "M", "t0", "t1", "Int -> Int", "Int -> Bool", "L -> Int", "t0 -> t0", "t0 -> t1", "(Int -> Int) -> Int", "Int -> Int -> Int"}
}

// wrongTys are of no kind, or have less or more in them than their kind tells.
func wrongTys() []impl.Ty {
	i := tyInt()
	l := []impl.Ty{
		{}, {K: 6}, {K: -1}, {K: 99}, {K: math.MaxInt}, {K: math.MinInt}, {S: "L"}, {N: 3}, tyList(0, i, i), tyList(6, i, i),
		tyList(impl.TFun), tyList(impl.TFun, i), tyList(impl.TFun, i, i, i), tyList(impl.TFun, tyVar(0), i, tyVar(1), i),
		{K: impl.TFun, S: "x", L: []impl.Ty{i, i}}, {K: impl.TFun, N: 7, L: []impl.Ty{i, i}},
		{K: impl.TInt, S: "x"}, {K: impl.TInt, N: 1}, {K: impl.TInt, N: -1}, tyList(impl.TInt, i), tyList(impl.TInt, tyVar(1)), tyList(impl.TInt, impl.Ty{}),
		{K: impl.TBool, S: "Bool"}, {K: impl.TBool, N: 500}, tyList(impl.TBool, i, i),
		{K: impl.TData}, {K: impl.TData, S: "L", N: 2}, {K: impl.TData, S: "L", L: []impl.Ty{tyVar(0)}}, tyData("int"), tyData("Int"), tyData("a b"), tyData("\xff"),
		{K: impl.TVar, S: "x"}, {K: impl.TVar, S: "x", N: 1}, tyList(impl.TVar, i), tyList(impl.TVar, tyVar(1)), {K: impl.TVar, N: 1, L: []impl.Ty{tyVar(0), {}}},
	}
	return l
}

func TestSameTy(t *testing.T) {
	l := tys(kindTexts()...)
	l = append(l, wrongTys()...)
	for _, s := range kindTexts() {
		l = append(l, tyFun(ty(s), tyInt()), tyFun(tyInt(), tyFun(ty(s), tyData("L"))))
	}
	for _, a := range l {
		for _, b := range l {
			if want := told(a) == told(b); impl.SameTy(a, b) != want {
				t.Errorf("SameTy(%s, %s) = %v", told(a), told(b), !want)
			}
		}
		empty := a
		if empty.L == nil {
			empty.L = []impl.Ty{}
		}
		if !impl.SameTy(a, empty) || !impl.SameTy(empty, a) {
			t.Errorf("%s: not the same with an empty list", told(a))
		}
	}
}

// Types are the same just if all of them is, whatever their kind tells.
func TestTypesAreTheSameJustIfAllOfThemIs(t *testing.T) {
	checkChanges(t, func() impl.Ty { return ty("(t0 -> Int) -> L -> (Bool -> t12) -> M") }, impl.SameTy, 50)
	checkChanges(t, func() impl.Ty {
		return tyList(impl.TFun, impl.Ty{K: impl.TInt, S: "x", N: 4, L: tys("t1", "Int -> L")}, impl.Ty{K: 9, L: tys("?", "t3")}, impl.Ty{K: impl.TVar, L: tys("Int")})
	}, impl.SameTy, 50)
}

func TestTyText(t *testing.T) {
	for _, s := range append(kindTexts(),
		"t9", "t10", "t499", "t500", "t1000000", "List", "A", "True",
		"Int -> Bool -> L", "(Int -> Bool) -> L", "(Int -> Bool) -> L -> M", "Int -> (Bool -> L) -> M", "((Int -> Bool) -> L) -> M", "(Int -> Bool -> L) -> M", "(Int -> Bool) -> (L -> M) -> t3",
		"(t0 -> t1) -> t0 -> t1", "Int -> Int -> Int -> Int -> Int", "(((t0 -> t1) -> t2) -> t3) -> t4", "((t0 -> t1) -> t2 -> t3) -> (t4 -> t5) -> t6",
	) {
		wantTyText(t, ty(s), s)
	}
	wantTyText(t, tyVar(math.MaxInt), "t"+strconv.Itoa(math.MaxInt))
	// Brackets stand around the first, if it is TFun, and nowhere else.
	for _, a := range kindTexts() {
		for _, b := range kindTexts() {
			first := a
			if strings.Contains(a, "->") {
				first = "(" + a + ")"
			}
			wantTyText(t, tyFun(ty(a), ty(b)), first+" -> "+b)
			wantTyText(t, tyFun(tyFun(ty(a), ty(b)), tyInt()), "("+first+" -> "+b+") -> Int")
			wantTyText(t, tyFun(tyInt(), tyFun(ty(a), ty(b))), "Int -> "+first+" -> "+b)
		}
	}
}

// Of a text that is told there is just one type.
func TestTyTextTellsAll(t *testing.T) {
	r := rand.New(rand.NewSource(90))
	for range 2000 {
		x := anyTy(r, 5, 12)
		if got := impl.TyText(x); told(ty(got)) != told(x) {
			t.Errorf("TyText(%s) = %q", told(x), got)
		}
	}
}

func TestTyTextDeep(t *testing.T) {
	for n := 1; n <= 14; n++ {
		right, left := strings.Repeat("Int -> ", n-1)+"Int", "Int"
		for i := 1; i < n; i++ {
			if i > 1 {
				left = "(" + left + ")"
			}
			left += " -> Int"
		}
		inRight, inLeft := "Int -> "+right, left+" -> Int"
		if n > 1 {
			inLeft = "(" + left + ") -> Int"
		}
		if n > 12 {
			right, left = "", ""
		}
		if n > 11 {
			inRight, inLeft = "", ""
		}
		wantTyText(t, arrows(n), right)
		wantTyText(t, leftArrows(n), left)
		wantTyText(t, tyFun(tyInt(), arrows(n)), inRight)
		wantTyText(t, tyFun(leftArrows(n), tyInt()), inLeft)
	}
	// All of 12 deep, as wide as it can be.
	wide := tyData("L")
	for range 11 {
		wide = tyFun(wide, wide)
	}
	if s := impl.TyText(wide); strings.Count(s, "L") != 2048 || strings.Count(s, "(") != 1023 {
		t.Errorf("the widest: %d L", strings.Count(s, "L"))
	}
	wantTyText(t, tyFun(wide, wide), "")
	wantTyText(t, arrows(200000), "")
	wantTyText(t, leftArrows(200000), "")
}

// What is none of these is told as nothing, wherever it stands.
func TestTyTextOfNone(t *testing.T) {
	i := tyInt()
	for _, bad := range []impl.Ty{
		{}, {K: 6}, {K: -1}, {K: math.MaxInt}, {K: math.MinInt}, {S: "L"}, tyList(0, i, i), tyList(6, i, i),
		tyVar(-1), tyVar(math.MinInt), tyList(impl.TFun), tyList(impl.TFun, i), tyList(impl.TFun, i, i, i),
	} {
		for _, x := range []impl.Ty{bad, tyFun(bad, i), tyFun(i, bad), tyFun(bad, bad), tyFun(tyFun(i, bad), i), tyFun(tyFun(bad, i), i), tyFun(i, tyFun(bad, i)), tyFun(i, tyFun(i, bad))} {
			wantTyText(t, x, "")
		}
	}
	// What has more in it than its kind tells is told by its kind.
	wantTyText(t, impl.Ty{K: impl.TInt, S: "x", N: -3, L: tys("L", "?")}, "Int")
	wantTyText(t, impl.Ty{K: impl.TBool, S: "x", N: 3, L: tys("L")}, "Bool")
	wantTyText(t, impl.Ty{K: impl.TData, S: "L", N: -1, L: tys("?")}, "L")
	wantTyText(t, impl.Ty{K: impl.TFun, S: "x", N: -1, L: tys("L", "Int")}, "L -> Int")
	wantTyText(t, impl.Ty{K: impl.TVar, S: "x", N: 7, L: tys("?")}, "t7")
	// A name is taken as it stands there.
	for _, s := range []string{"", "a", "Int", "a -> b", "\xff", "\n"} {
		wantTyText(t, tyData(s), s)
		wantTyText(t, tyFun(tyData(s), tyData(s)), s+" -> "+s)
	}
}

func TestKnown(t *testing.T) {
	// No table at all, one in which nothing is known, one that is too short.
	for _, l := range [][]impl.Ty{nil, {}, table("?"), table("?;?;?"), table("?;?;?;?;?;?;?;?;?;?;?;?;?"), table("Int;L -> L")[:0]} {
		for _, s := range kindTexts() {
			wantKnown(t, l, knowing{s, s})
		}
		wantKnown(t, l, knowing{"t12 -> t-1", "t12 -> t-1"})
	}
	wantKnown(t, table("Int"), knowing{"t0", "Int"}, knowing{"t1", "t1"}, knowing{"t-1", "t-1"}, knowing{"Int", "Int"}, knowing{"t0 -> t1", "Int -> t1"}, knowing{"(t1 -> t0) -> t0", "(t1 -> Int) -> Int"})
	wantKnown(t, table("?;Bool"), knowing{"t0", "t0"}, knowing{"t1", "Bool"}, knowing{"t2", "t2"}, knowing{"t2 -> t1 -> t0", "t2 -> Bool -> t0"})
	wantKnown(t, table("L;?;Int -> Bool;Int"), knowing{"t2", "Int -> Bool"}, knowing{"t2 -> t2", "(Int -> Bool) -> Int -> Bool"}, knowing{"t0 -> t1 -> t2 -> t3 -> t4", "L -> t1 -> (Int -> Bool) -> Int -> t4"})
	// One behind the other, up and down, and what is found there likewise.
	wantKnown(t, table("t1;t2;Int"), knowing{"t0", "Int"}, knowing{"t1", "Int"}, knowing{"t2", "Int"}, knowing{"t0 -> t1", "Int -> Int"})
	wantKnown(t, table("Int;t0;t1"), knowing{"t2", "Int"}, knowing{"t2 -> t1", "Int -> Int"})
	wantKnown(t, table("t1;t2;?"), knowing{"t0", "t2"}, knowing{"t1", "t2"}, knowing{"t2", "t2"})
	wantKnown(t, table("t1;t7"), knowing{"t0", "t7"}, knowing{"t0 -> t1", "t7 -> t7"})
	wantKnown(t, table("t-3;t0"), knowing{"t0", "t-3"}, knowing{"t1", "t-3"})
	wantKnown(t, table("t1 -> t2;t2 -> Int;Bool"), knowing{"t0", "(Bool -> Int) -> Bool"}, knowing{"t0 -> t1", "((Bool -> Int) -> Bool) -> Bool -> Int"})
	wantKnown(t, table("t3;?;t0 -> t1;L"), knowing{"t2", "L -> t1"}, knowing{"t2 -> t2", "(L -> t1) -> L -> t1"})
	// What is of no kind is known, unless it is of K 0.
	wantKnown(t, table("?9;?"), knowing{"t0", "?9"}, knowing{"t1", "t1"}, knowing{"t0 -> t1", "?9 -> t1"}, knowing{"? -> t0", "? -> ?9"})
	wantTy(t, "K 0 with more in it", impl.Known([]impl.Ty{{S: "L", N: 3, L: tys("Int")}}, ty("t0 -> t0")), ty("t0 -> t0"))
}

// All parts are looked at, though the kind does not tell them.
func TestKnownOfWrongTypes(t *testing.T) {
	l := table("Int;?;t0 -> t1")
	within := tys("t0", "t1", "t2")
	known := tys("Int", "t1", "Int -> t1")
	for k := -2; k < 9; k++ {
		wantTy(t, "parts", impl.Known(l, impl.Ty{K: k, S: "x", N: 1, L: within}), impl.Ty{K: k, S: "x", N: 1, L: known})
		wantTy(t, "parts of parts", impl.Known(l, tyFun(tyInt(), impl.Ty{K: k, N: 1, L: []impl.Ty{tyList(k+1, within...)}})), tyFun(tyInt(), impl.Ty{K: k, N: 1, L: []impl.Ty{knownByHand(l, tyList(k+1, within...))}}))
		// So are those of what is known.
		wantTy(t, "parts in a table", impl.Known(append(table("Int;?;t0 -> t1"), impl.Ty{K: k, S: "x", N: 1, L: within}), tyVar(3)), knownByHand(append(table("Int;?;t0 -> t1"), impl.Ty{K: k, S: "x", N: 1, L: within}), tyVar(3)))
	}
	// A TVar that is known gives way with all that is in it.
	wantTy(t, "more in a TVar", impl.Known(l, impl.Ty{K: impl.TVar, S: "x", L: within}), tyInt())
	wantTy(t, "more in a TVar that is not known", impl.Known(l, impl.Ty{K: impl.TVar, S: "x", N: 1, L: within}), impl.Ty{K: impl.TVar, S: "x", N: 1, L: known})
	for _, x := range wrongTys() {
		wantTy(t, "by hand", impl.Known(l, x), knownByHand(l, x))
		wantTy(t, "by nothing", impl.Known(nil, x), x)
	}
	wantTy(t, "TFun of one", impl.Known(l, tyList(impl.TFun, tyVar(0))), tyList(impl.TFun, tyInt()))
	wantTy(t, "TFun of three", impl.Known(l, tyList(impl.TFun, within...)), tyList(impl.TFun, known...))
}

// knownByHand looks up each part, as long as there are 3000 of them.
func knownByHand(l []impl.Ty, t impl.Ty) impl.Ty {
	left := 3000
	var known func(t impl.Ty) impl.Ty
	known = func(t impl.Ty) impl.Ty {
		if left == 0 {
			return t
		}
		left--
		for n := 0; n <= len(l) && t.K == impl.TVar && t.N >= 0 && t.N < len(l) && l[t.N].K != 0; n++ {
			t = l[t.N]
		}
		parts := t.L
		t.L = nil
		for _, x := range parts {
			t.L = append(t.L, known(x))
		}
		return t
	}
	return known(t)
}

// What goes round is looked up once more often than the table is long.
func TestKnownThatGoesRound(t *testing.T) {
	wantKnown(t, table("t0"), knowing{"t0", "t0"}, knowing{"t0 -> Int", "t0 -> Int"}, knowing{"t1", "t1"})
	wantKnown(t, table("?;t1;t1"), knowing{"t1", "t1"}, knowing{"t2", "t1"}, knowing{"t2 -> t0", "t1 -> t0"})
	// Two known as each other: of a table of two three times.
	wantKnown(t, table("t1;t0"), knowing{"t0", "t1"}, knowing{"t1", "t0"}, knowing{"t0 -> t1", "t1 -> t0"})
	wantKnown(t, table("t1;t0;?"), knowing{"t0", "t0"}, knowing{"t1", "t1"}, knowing{"t2", "t2"})
	wantKnown(t, table("t1;t0;?;?"), knowing{"t0", "t1"}, knowing{"t1", "t0"})
	wantKnown(t, table("t1;t0;t0"), knowing{"t2", "t1"}, knowing{"t0", "t0"})
	wantKnown(t, table("t1;t0;t1;t2"), knowing{"t3", "t0"}, knowing{"t2", "t1"}, knowing{"t1", "t0"})
	// Three.
	wantKnown(t, table("t1;t2;t0"), knowing{"t0", "t1"}, knowing{"t1", "t2"}, knowing{"t2", "t0"})
	wantKnown(t, table("t1;t2;t0;?"), knowing{"t0", "t2"}, knowing{"t1", "t0"}, knowing{"t2", "t1"})
	wantKnown(t, table("t1;t2;t0;?;?"), knowing{"t0", "t0"}, knowing{"t1", "t1"}, knowing{"t2", "t2"})
	for long := 2; long < 12; long++ {
		l := append(table("t1;t0"), make([]impl.Ty, long-2)...)
		wantTy(t, "two of "+strconv.Itoa(long), impl.Known(l, tyVar(0)), tyVar((long+1)%2))
	}
	// All of a table behind each other, to the end: that does not go round.
	l := []impl.Ty{}
	for n := range 400 {
		l = append(l, tyVar(n+1))
	}
	wantTy(t, "as long as can be", impl.Known(l, tyVar(0)), tyVar(400))
	l = append(l, tyInt())
	wantTy(t, "as long as can be", impl.Known(l, tyVar(0)), tyInt())
	l[400] = tyVar(0)
	wantTy(t, "round as far as can be", impl.Known(l, tyVar(0)), tyVar(1))
}

// A TVar that is known as a type in which it stands is known 3000 parts far.
func TestKnownThatStandsInItself(t *testing.T) {
	for _, l := range []string{"t0 -> Int", "Int -> t0", "t0 -> t0", "t1 -> t0;t0 -> Int", "t1;t2;t0 -> t1", "t1 -> Bool;t0", "t0 -> t1;Int", "t1 -> t0;Int"} {
		for _, s := range []string{"t0", "t1", "t0 -> t1", "Int -> t0", "(t0 -> Int) -> t1"} {
			got := impl.Known(table(l), ty(s))
			if told(got) != told(knownByHand(table(l), ty(s))) {
				t.Errorf("Known(%s, %s) is not as by hand", l, s)
			}
		}
		wantTyText(t, impl.Known(table(l), tyVar(0)), "")
	}
	// Each part is ahead of its own, so that the last TVar stays, and so does all that is behind: the second of each TFun.
	got, deep := impl.Known(table("t0 -> t1;Int"), tyVar(0)), 0
	for x := got; x.K == impl.TFun; x = x.L[0] {
		deep++
		wantTy(t, "behind", x.L[1], tyVar(1))
		if deep == 3000 {
			wantTy(t, "the last", x.L[0], tyVar(0))
		}
	}
	if deep != 3000 {
		t.Errorf("%d deep", deep)
	}
	got, deep = impl.Known(table("t1 -> t0;Int"), tyVar(0)), 0
	for x := got; x.K == impl.TFun; x = x.L[1] {
		deep++
		if deep == 1500 {
			wantTy(t, "the 3000th", x.L[0], tyInt())
			wantTy(t, "the last", x.L[1], tyVar(0))
		} else {
			wantTy(t, "in front", x.L[0], tyInt())
		}
	}
	if deep != 1500 {
		t.Errorf("%d deep", deep)
	}
}

// endingWith answers n TFuns, each the second of the one ahead, of Int and at the end of last, which is the part 2n+1.
func endingWith(n int, last impl.Ty) impl.Ty {
	for range n {
		last = tyFun(tyInt(), last)
	}
	return last
}

func TestKnownOf3000Parts(t *testing.T) {
	l := table("Int;L -> Bool")
	// Parts 2999 and 3001.
	wantTy(t, "2999 parts", impl.Known(l, endingWith(1499, tyVar(0))), endingWith(1499, tyInt()))
	wantTy(t, "3001 parts", impl.Known(l, endingWith(1500, tyVar(0))), endingWith(1500, tyVar(0)))
	// Parts 3000 and 3001: the last TFun's first and second.
	wantTy(t, "the 3000th", impl.Known(l, endingWith(1499, ty("t0 -> t0"))), endingWith(1499, ty("Int -> t0")))
	wantTy(t, "the 2999th and the 3000th", impl.Known(l, tyFun(tyInt(), tyList(impl.TVar, tyInt()))), tyFun(tyInt(), tyInt()))
	// What is put in the place of a TVar counts as one part, and its own do.
	wantTy(t, "one of three parts, met", impl.Known(l, endingWith(1498, ty("Int -> t1"))), endingWith(1498, ty("Int -> L -> Bool")))
	wantTy(t, "known at the 2999th", impl.Known(table("Int;t0 -> t0"), endingWith(1499, tyVar(1))), endingWith(1499, ty("Int -> t0")))
	wantTy(t, "known at the 3000th", impl.Known(table("Int;t0 -> t0"), endingWith(1499, ty("t1 -> t1"))), endingWith(1499, ty("(t0 -> t0) -> t1")))
	wantTy(t, "known at the 2997th", impl.Known(table("Int;t0 -> t0"), endingWith(1498, tyVar(1))), endingWith(1498, ty("Int -> Int")))
	wantTy(t, "one behind the other is one part", impl.Known(table("t1;t2;t3;Int"), endingWith(1499, ty("t0 -> t0"))), endingWith(1499, ty("Int -> t0")))
	// The front is ahead of the depth: a wide list.
	wide := tyList(9, slices.Repeat(tys("t0"), 3100)...)
	want := tyList(9, slices.Concat(slices.Repeat(tys("Int"), 2999), slices.Repeat(tys("t0"), 101))...)
	wantTy(t, "wide", impl.Known(l, wide), want)
	wide.L[0], wide.L[2998] = ty("t0 -> t0"), ty("t0 -> t0")
	want = knownByHand(l, wide)
	if wantParts := tys("Int -> Int", "Int", "t0"); told(want.L[0]) != told(wantParts[0]) || told(want.L[2996]) != told(wantParts[1]) || told(want.L[2997]) != told(wantParts[2]) {
		t.Error("by hand: wide with parts")
	}
	wantTy(t, "wide with parts", impl.Known(l, wide), want)
	// What is behind stays as it is with all its parts.
	behind := tyFun(endingWith(1600, tyVar(0)), ty("t0 -> (t1 -> t0) -> ?9"))
	wantTy(t, "far behind", impl.Known(l, behind), behind)
}

// eachUnification is a table, two types, and what comes of them.
type unification struct{ table, a, b, want string }

func TestUnify(t *testing.T) {
	for _, c := range []unification{
		// Nothing is asked for.
		{"", "Int", "Int", ""}, {"", "L", "L", ""}, {"Int;?", "Bool", "Bool", "Int; t1"}, {"", "Int -> L", "Int -> L", ""},
		// The same TVar: nothing, and the table is as long as it was.
		{"", "t0", "t0", ""}, {"", "t3", "t3", ""}, {"?", "t3", "t3", "t0"}, {"", "t0 -> t1", "t0 -> t1", ""}, {"t1", "t0", "t1", "t1"}, {"t1", "t1", "t0", "t1"}, {"t2;t2", "t0", "t1", "t2; t2"},
		// A TVar on the left, on the right, on both.
		{"", "t0", "Int", "Int"}, {"", "Int", "t0", "Int"}, {"", "t0", "t1", "t1"}, {"", "t1", "t0", "t0; t0"}, {"", "t1 -> t0", "t0 -> t1", "t0; t0"},
		{"", "t0", "Int -> L", "Int -> L"}, {"", "Int -> L", "t0", "Int -> L"}, {"", "t0", "t1 -> t2", "t1 -> t2"}, {"", "t1 -> t2", "t0", "t1 -> t2"},
		// The table is as long as the number asks for; a longer one stays so.
		{"", "t2", "Int", "t0; t1; Int"}, {"?", "t2", "Int", "t0; t1; Int"}, {"?;?", "t2", "Int", "t0; t1; Int"}, {"?;?;?", "t2", "Int", "t0; t1; Int"}, {"?;?;?;?;?", "t2", "Int", "t0; t1; Int; t3; t4"},
		{"L;?", "Int", "t2", "L; t1; Int"}, {"L", "t1", "t7", "L; t7"}, {"L", "t7", "t1", "L; t1; t2; t3; t4; t5; t6; t1"},
		// TFun on either side: the first ones, then the second ones.
		{"", "t0 -> t1", "Int -> L", "Int; L"}, {"", "Int -> L", "t0 -> t1", "Int; L"}, {"", "t0 -> L", "Int -> t1", "Int; L"}, {"", "t0 -> t0", "Int -> Int", "Int"}, {"", "t0 -> t0", "t1 -> Int", "Int; Int"},
		{"", "t0 -> t1", "t1 -> t0", "t1"}, {"", "t0 -> t1", "t1 -> Int", "Int; Int"}, {"", "t0 -> t0", "t1 -> t2", "t2; t2"}, {"", "t0 -> t1 -> t2", "t1 -> t2 -> Int", "Int; Int; Int"},
		{"", "(t0 -> Int) -> t1", "t2 -> L", "t0; L; t0 -> Int"}, {"", "t2 -> L", "(t0 -> Int) -> t1", "t0; L; t0 -> Int"}, {"", "(t0 -> t1) -> t0", "(Int -> L) -> t2", "Int; L; Int"},
		{"", "t0 -> t1", "(Int -> t2) -> t0", "Int -> t2; Int -> t2"}, {"", "t0 -> t1 -> t2", "(t1 -> t1) -> (t2 -> t2) -> Int", "(Int -> Int) -> Int -> Int; Int -> Int; Int"},
		{"", "((t0 -> t1) -> t2) -> t3", "((Int -> Bool) -> L) -> M", "Int; Bool; L; M"}, {"", "t0 -> Int -> t1", "L -> t2", "L; t1; Int -> t1"},
		// What is known already, one behind the other, too.
		{"Int", "t0", "Int", "Int"}, {"Int", "Int", "t0", "Int"}, {"Int;Int", "t0", "t1", "Int; Int"}, {"Int", "t0", "t1", "Int; Int"}, {"Int", "t1", "t0", "Int; Int"}, {"t1;t2", "t0", "Int", "Int; Int; Int"}, {"t1;t2;?", "Int", "t0", "Int; Int; Int"},
		{"t1;t2;?;t4", "t0", "t3", "t4; t4; t4; t4"}, {"t1;t2;?;t4", "t3", "t0", "t2; t2; t2; t2; t2"}, {"t1 -> t2", "t0", "Int -> L", "Int -> L; Int; L"}, {"t1 -> t2;Int", "t0 -> t2", "t3 -> L", "Int -> L; Int; L; Int -> L"},
		{"t1 -> t1;?;t3 -> L", "t0", "t2", "L -> L; L; L -> L; L"}, {"?;t0;t1", "t2 -> Bool", "Int -> t3", "Int; Int; Int; Bool"}, {"L", "t0 -> t1", "t1 -> t0", "L; L"},
	} {
		wantUnified(t, table(c.table), ty(c.a), ty(c.b), c.want)
	}
}

func TestUnifyOfEachKindWithEach(t *testing.T) {
	// t5 is of none of them.
	for _, a := range kindTexts() {
		wantUnified(t, nil, ty(a), ty(a), "")
		wantUnified(t, nil, tyVar(5), ty(a), "t0; t1; t2; t3; t4; "+a)
		wantUnified(t, nil, tyFun(ty(a), tyInt()), ty("t5 -> Int"), eachKnown(unifiedByHand(t, nil, ty(a), tyVar(5))))
		for _, b := range kindTexts() {
			if a == b || strings.ContainsAny(a+b, "t") {
				continue
			}
			wantNotUnified(t, nil, ty(a), ty(b))
			wantNotUnified(t, nil, tyFun(ty(a), tyInt()), tyFun(ty(b), tyInt()))
			wantNotUnified(t, nil, tyFun(tyInt(), ty(a)), tyFun(tyInt(), ty(b)))
			wantNotUnified(t, []impl.Ty{ty(a), ty(b)}, tyVar(0), tyVar(1))
			wantNotUnified(t, []impl.Ty{ty(a)}, tyVar(0), ty(b))
			wantNotUnified(t, []impl.Ty{ty(a)}, ty(b), tyVar(0))
			wantNotUnified(t, nil, tyFun(tyVar(0), tyVar(0)), tyFun(ty(a), ty(b)))
		}
	}
	// All of these, against what is told by hand.
	for _, l := range []string{"", "?;?;?", "Int", "?;Int", "t1", "?;t0", "Int -> Int;t0", "t1 -> t1;Bool"} {
		for _, a := range kindTexts() {
			for _, b := range kindTexts() {
				checkUnifyByHand(t, table(l), ty(a), ty(b))
			}
		}
	}
}

// Whatever came ahead of what cannot be, the table is as it was.
func TestUnifyOfWhatCannotBe(t *testing.T) {
	for _, c := range []unification{
		{"", "Int", "Bool", ""}, {"", "L", "M", ""}, {"", "Int", "L", ""}, {"", "Int -> Int", "Int", ""}, {"", "Int", "Int -> Int", ""}, {"", "t0 -> t0", "Int -> L", ""}, {"", "Int -> L", "t0 -> t0", ""},
		{"", "t0 -> Int", "L -> Bool", ""}, {"?;?;L", "t0 -> t1 -> Int", "Int -> Int -> t2", ""}, {"Int", "t0", "Bool", ""}, {"Int;Bool", "t0", "t1", ""}, {"t1;t2;Int", "t0", "L", ""}, {"", "t0 -> t1 -> t0 -> t1", "Int -> L -> Int -> Int", ""},
		{"Int -> t1", "t0", "L -> t2", ""}, {"", "(t0 -> t1) -> Int", "(Int -> L) -> t0 -> t1", ""}, {"", "Int -> Int -> Int", "Int -> Int", ""}, {"", "(Int -> Int) -> Int", "Int -> Int -> Int", ""},
	} {
		wantNotUnified(t, table(c.table), ty(c.a), ty(c.b))
		wantNotUnified(t, table(c.table), ty(c.b), ty(c.a))
	}
}

func TestUnifyOfWhatStandsInItself(t *testing.T) {
	for _, c := range []unification{
		// At once, deep inside, and by way of what others are known as.
		{"", "t0", "t0 -> Int", ""}, {"", "t0", "Int -> t0", ""}, {"", "t0", "t0 -> t0", ""}, {"", "t0", "Int -> (L -> (t0 -> Bool) -> M) -> Int", ""}, {"", "t0", "((Int -> t0) -> L) -> M", ""},
		{"?;t0", "t0", "t1 -> Int", ""}, {"?;t0 -> L", "t0", "t1", ""}, {"?;t0 -> L", "t0", "Int -> t1", ""}, {"?;t2;t3;Int -> t0", "t0", "L -> t1", ""}, {"t1;?", "t0", "t1 -> Int", ""}, {"t1;?", "t1", "Int -> t0", ""}, {"t1;t2", "t0", "t1 -> Int", ""},
		{"?;?;Int -> t0;t0 -> t2", "t0", "Int -> Int -> t3", ""},
		// By way of what was made known just now.
		{"", "t3 -> t4", "t4 -> t3 -> Int", ""}, {"", "t0 -> t0", "t1 -> t1 -> Int", ""}, {"", "t0 -> t1", "(Int -> t1) -> t0", ""}, {"", "t0 -> t1 -> t2", "(t1 -> Int) -> (t2 -> Int) -> t0", ""}, {"", "(t0 -> t1) -> t0", "(t1 -> t0) -> t1 -> Int", ""},
	} {
		wantNotUnified(t, table(c.table), ty(c.a), ty(c.b))
		wantNotUnified(t, table(c.table), ty(c.b), ty(c.a))
	}
	// The number alone is not enough: it is the TVar's.
	wantUnified(t, nil, tyVar(0), tyFun(impl.Ty{K: impl.TInt}, tyVar(1)), "Int -> t1")
	wantUnified(t, nil, tyVar(7), impl.Ty{K: impl.TData, S: "L", N: 7}, "t0; t1; t2; t3; t4; t5; t6; L")
	// What is known already is another one.
	wantUnified(t, table("Int"), tyVar(0), tyInt(), "Int")
	wantUnified(t, table("Int;?"), tyVar(1), ty("t0 -> L"), "Int; Int -> L")
	wantUnified(t, table("t1;?"), ty("t0"), ty("t1"), "t1; t1")
}

// What goes round in a table is taken for what stands there in the end.
func TestUnifyInATableThatGoesRound(t *testing.T) {
	for _, c := range []unification{
		{"t0", "t0", "Int", "Int"}, {"t0", "Int", "t0", "Int"}, {"t0", "t0", "t0", "t0"}, {"t0", "t0", "t1", "t1"}, {"t0", "t1", "t0", "t0; t0"}, {"t0", "t0 -> t0", "Int -> t1", "Int; Int"}, {"t0;t0", "t1", "L", "L; L"},
		{"t1;t0", "t0", "Int", "Int; Int"}, {"t1;t0", "Int", "t1", "Int; Int"}, {"t1;t0", "t0", "t0", "t1; t0"}, {"t1;t0", "t0 -> t1", "Int -> Int", "Int; Int"}, {"t1;t0", "t0", "t2 -> L", "t2 -> L; t2 -> L"}, {"t1;t0", "t0", "t2", "t2; t2"}, {"t1;t0;?", "t0", "t2", "t2; t2; t2"},
		{"t1;t2;t0", "t0 -> t1", "L -> t2", "L; L; L"}, {"t1;t2;t0", "t1", "t1", "t1; t2; t0"}, {"t1;t0;t3;t2", "t0", "Int", "Int; Int; t3; t2"},
	} {
		wantUnified(t, table(c.table), ty(c.a), ty(c.b), c.want)
	}
	for _, c := range []unification{
		// As far as they are known they are not the same TVar, and each stands in what the other is known as.
		{"t1;t0", "t0", "t1", ""}, {"t1;t2;t0", "t0", "t1", ""}, {"t1;t2;t0", "t0", "t2", ""}, {"t1;t0;?", "t0", "t1", ""}, {"t1;t0", "t0 -> Int", "t1 -> Int", ""},
		{"t1;t0", "t0", "t1 -> Int", ""}, {"t1;t0", "t0", "t0 -> Int", ""}, {"t1;t0;?", "t0", "t1 -> Int", ""}, {"t0", "t0", "t0 -> Int", ""}, {"t1;t2;t0", "t0", "Int -> t2", ""}, {"t1;t2;t0;t0 -> L", "t0", "t3", ""},
		// Known as a type in which it stands: there is no end to it.
		{"t0 -> Int", "t0", "t0", ""}, {"Int -> t0", "t0", "t0", ""}, {"t0 -> Int", "t0", "t1", ""}, {"t0 -> Int", "t1", "t0", ""}, {"t0 -> t0", "t0", "t0", ""}, {"t1 -> Int;t0", "t0", "t1", ""}, {"t0 -> Int;t1 -> Int", "t0", "t1", ""},
		{"t0 -> Int", "t0", "Int", ""}, {"t0 -> Int", "t1 -> t1", "Int -> t0", ""}, {"Int -> t0", "t1", "L -> t0", ""},
	} {
		wantNotUnified(t, table(c.table), ty(c.a), ty(c.b))
		wantNotUnified(t, table(c.table), ty(c.b), ty(c.a))
	}
	// What goes round elsewhere is nothing to it.
	wantUnified(t, table("?;?;t3;t2"), tyVar(0), tyInt(), "Int; t1; t3; t2")
	if out, ok := impl.Unify(table("?;t1 -> Int"), tyVar(0), tyInt()); !ok || told(out) != told(table("Int;t1 -> Int")) {
		t.Error("a type that goes round elsewhere", told(out))
	}
}

// eachTable answers all tables of this length of these texts.
func eachTable(long int, texts ...string) [][]impl.Ty {
	all := [][]impl.Ty{nil}
	for range long {
		longer := [][]impl.Ty{}
		for _, l := range all {
			for _, s := range texts {
				longer = append(longer, append(slices.Clone(l), ty(s)))
			}
		}
		all = longer
	}
	return all
}

// P9 of tables that go round in every way: of two TVars, and of one with a type.
func TestUnifyInEachRoundTable(t *testing.T) {
	asked := tys("t0", "t1", "t2", "t3", "Int", "t0 -> Int", "t0 -> t1", "t2 -> t3", "t1 -> t0")
	tables := slices.Concat(eachTable(4, "?", "t0", "t1", "t2", "t3", "Int"), eachTable(2, "?", "t0", "t1", "t0 -> t1", "t1 -> Int", "Int -> t0"))
	made := 0
	for _, l := range tables {
		for _, a := range asked {
			for _, b := range asked {
				if checkUnified(t, l, a, b) {
					made++
				}
			}
		}
	}
	if made < 50000 {
		t.Errorf("only %d were made the same", made)
	}
}

func TestUnifyOfNumbers(t *testing.T) {
	// Met exactly: MaxVars of them.
	for _, c := range [][2]impl.Ty{{tyVar(499), tyInt()}, {tyInt(), tyVar(499)}, {ty("L -> t499"), ty("L -> Int")}, {ty("t499 -> t499"), ty("t499 -> Int")}} {
		out, ok := impl.Unify(nil, c[0], c[1])
		if !ok || len(out) != impl.MaxVars || told(out[499]) != told(tyInt()) || told(out[:499]) != told(make([]impl.Ty, 499)) {
			t.Errorf("Unify(%s, %s): %d, %v", told(c[0]), told(c[1]), len(out), ok)
		}
	}
	wantUnified(t, nil, tyVar(499), tyVar(499), "")
	wantUnified(t, nil, tyVar(0), tyVar(499), "t499")
	wantUnified(t, nil, tyVar(0), ty("t499 -> t1"), "t499 -> t1")
	wantUnified(t, table("t499"), tyVar(0), tyVar(499), "t499")
	for _, s := range []string{"t500", "t501", "t1000000", "t9223372036854775807", "t-1", "t-2", "t-9223372036854775808"} {
		bad := ty(s)
		for _, c := range [][2]impl.Ty{
			// In the one and in the other, alone, inside, and with itself.
			{bad, tyInt()}, {bad, bad}, {bad, tyVar(0)}, {bad, tyFun(tyInt(), tyInt())}, {tyFun(bad, tyInt()), tyFun(tyInt(), tyInt())}, {tyFun(tyInt(), bad), tyFun(tyInt(), bad)}, {tyFun(tyVar(0), bad), tyFun(tyInt(), tyVar(1))},
			// In what a TVar would be known as.
			{tyVar(0), tyFun(bad, tyInt())}, {tyVar(0), tyFun(tyInt(), tyFun(tyInt(), bad))}, {tyFun(tyVar(0), tyVar(1)), tyFun(tyInt(), tyFun(bad, bad))}, {tyVar(0), tyList(impl.TInt, bad)},
		} {
			wantNotUnified(t, nil, c[0], c[1])
			wantNotUnified(t, nil, c[1], c[0])
			wantNotUnified(t, table("?;Int;L"), c[0], c[1])
			wantNotUnified(t, make([]impl.Ty, 600), c[1], c[0])
		}
		// In the table, on the way.
		for _, l := range [][]impl.Ty{{bad}, {tyVar(1), bad}, {tyFun(bad, tyInt())}, {tyVar(1), tyFun(tyInt(), bad)}} {
			for _, b := range tys("Int", "Int -> Int", "t0", "t2", "t7") {
				wantNotUnified(t, l, tyVar(0), b)
				wantNotUnified(t, l, b, tyVar(0))
			}
		}
		// In the table, but none of these.
		wantUnifiedTable(t, []impl.Ty{{}, bad}, tyVar(0), tyInt(), []impl.Ty{tyInt(), bad})
		wantUnifiedTable(t, []impl.Ty{{}, {}, tyFun(bad, bad)}, tyVar(0), tyVar(1), []impl.Ty{tyVar(1), {}, tyFun(bad, bad)})
	}
	// A number that is known in a table that is too long is still too great.
	long := slices.Repeat(tys("Int"), 502)
	wantNotUnified(t, long, tyVar(500), tyInt())
	wantNotUnified(t, long, tyInt(), tyVar(501))
	long[0] = tyVar(500)
	wantNotUnified(t, long, tyVar(0), tyInt())
	wantUnifiedTable(t, long, tyVar(499), tyInt(), long)
	// The number of what is no TVar is none.
	for _, n := range []int{-1, 500, math.MaxInt} {
		x := impl.Ty{K: impl.TInt, N: n}
		wantUnified(t, nil, x, x, "")
		wantNotUnified(t, nil, x, tyInt())
	}
}

func wantUnifiedTable(t *testing.T, l []impl.Ty, a, b impl.Ty, want []impl.Ty) {
	t.Helper()
	if out, ok := impl.Unify(l, a, b); !ok || told(out) != told(want) {
		t.Errorf("Unify(%s, %s, %s) = %s, %v", told(l), told(a), told(b), told(out), ok)
	}
}

// 20000 parts may be looked at: those that are held against each other, two at a time, and those in which a TVar is sought.
func TestUnifyOf20000Parts(t *testing.T) {
	i, v0, v1, v2 := tyInt(), tyVar(0), tyVar(1), tyVar(2)
	seven := table("?;?;?;?;?;?;?;L")
	for _, c := range []struct {
		what  string
		a, b  impl.Ty
		parts int
	}{
		// arrows(n) is of 2n-1 parts.
		{"held against each other", arrows(10000), arrows(10000), 19999},
		{"held against each other, one too many", arrows(10001), arrows(10001), 20001},
		{"to the left", leftArrows(10000), leftArrows(10000), 19999},
		{"to the left, one too many", leftArrows(10001), leftArrows(10001), 20001},
		{"a TVar", v0, arrows(10000), 20000},
		{"a TVar, two too many", v0, arrows(10001), 20002},
		{"a TVar on the right", leftArrows(10000), v0, 20000},
		{"a TVar on the right, two too many", leftArrows(10001), v0, 20002},
		{"two TVars", tyFun(v0, v1), tyFun(arrows(5000), arrows(4999)), 3 + 9999 + 9997},
		{"two TVars, one too many", tyFun(v0, v1), tyFun(arrows(5000), arrows(5000)), 3 + 9999 + 9999},
		{"a TVar ahead", tyFun(v0, arrows(9999)), tyFun(i, arrows(9999)), 20000},
		{"two TVars ahead", tyFun(v0, tyFun(v1, arrows(9997))), tyFun(i, tyFun(i, arrows(9997))), 19999},
		{"two TVars ahead, one too many", tyFun(v0, tyFun(v1, arrows(9998))), tyFun(i, tyFun(i, arrows(9998))), 20001},
		{"the same TVar behind", tyFun(arrows(9999), v2), tyFun(arrows(9999), v2), 19999},
		{"another TVar behind", tyFun(arrows(9999), v2), tyFun(arrows(9999), v1), 20000},
		{"another TVar and one more behind", tyFun(arrows(9998), tyFun(v2, v0)), tyFun(arrows(9998), tyFun(v1, v0)), 20000},
		{"TVars behind, one of them known by then, one too many", tyFun(arrows(9997), tyFun(v2, tyFun(v0, v0))), tyFun(arrows(9997), tyFun(v1, tyFun(v1, v1))), 20001},
		// What is known is looked at like what stands there, and the way to it is no part.
		{"known", tyFun(tyVar(8), i), tyFun(arrows(9999), i), 19999},
		{"known, one too many", tyFun(tyVar(8), i), tyFun(arrows(10000), i), 20001},
	} {
		l := append(slices.Clone(seven), tyVar(9), firstPart(c.b))
		out, ok := impl.Unify(l, c.a, c.b)
		if want := c.parts <= 20000; ok != want {
			t.Errorf("%s: %d parts: %v", c.what, c.parts, ok)
		}
		if !ok && told(out) != told(l) {
			t.Errorf("%s: not the table as it was", c.what)
		}
	}
}

// What is looked at once more, where the table goes round, is counted once.
func TestUnifyOfManyPartsInARoundTable(t *testing.T) {
	a, b := tyFun(arrows(9999), tyVar(0)), tyFun(arrows(9999), tyInt())
	wantUnifiedTable(t, table("t0"), a, b, table("Int"))
	wantUnifiedTable(t, table("t1;t0"), a, b, table("t1;Int"))
	wantNotUnified(t, table("t0"), tyFun(arrows(10000), tyVar(0)), tyFun(arrows(10000), tyInt()))
	wantNotUnified(t, table("t1;t0"), a, tyFun(arrows(9999), tyVar(1)))
}

// firstPart answers t itself, if it has none.
func firstPart(t impl.Ty) impl.Ty {
	if len(t.L) > 0 {
		return t.L[0]
	}
	return t
}

// Types that are twice as large with each TVar are given up, and those that are not too large are not.
func TestUnifyOfWhatGrows(t *testing.T) {
	l := []impl.Ty{tyInt()}
	for n := range 60 {
		l = append(l, tyFun(tyVar(n), tyVar(n)))
	}
	// t12 is of 8191 parts, t13 of 16383, t14 of 32767.
	for n, want := range map[int]bool{0: true, 5: true, 12: true, 13: true, 14: false, 20: false, 60: false} {
		if out, ok := impl.Unify(l, tyVar(n), tyVar(n)); ok != want || told(out) != told(l) {
			t.Errorf("t%d with itself: %v", n, ok)
		}
		if _, ok := impl.Unify(l, tyVar(99), tyVar(n)); ok != want {
			t.Errorf("t99 with t%d: %v", n, ok)
		}
		if _, ok := impl.Unify(l, tyVar(n), tyInt()); ok != (n == 0) {
			t.Errorf("t%d with Int: %v", n, ok)
		}
	}
	if _, ok := impl.Unify(l, tyVar(11), tyVar(12)); ok {
		t.Error("t11 with t12")
	}
}

// noKinds are types of kinds that are none, no two of them the same.
func noKinds() []impl.Ty {
	l := []impl.Ty{}
	for _, k := range []int{6, 7, -1, 1000, math.MaxInt, math.MinInt} {
		l = append(l, impl.Ty{K: k}, impl.Ty{K: k, S: "x"}, impl.Ty{K: k, N: 3}, impl.Ty{K: k, S: "x", N: 3}, impl.Ty{K: k, N: -1}, impl.Ty{K: k, N: 500},
			tyList(k, tyInt()), tyList(k, tyInt(), tyData("L")), tyList(k, tyBool(), tyData("L")), tyList(k, impl.Ty{K: k}))
	}
	return l
}

// wantSameOrNot is handed types in which no TVar is unknown: nothing more can be known, whether they are the same or not.
func wantSameOrNot(t *testing.T, same bool, l []impl.Ty, a, b impl.Ty) {
	t.Helper()
	if !same {
		wantNotUnified(t, l, a, b)
		return
	}
	wantUnifiedTable(t, l, a, b, l)
	checkUnified(t, l, a, b)
}

// What is of no kind is the same as what is the same in all its parts, and as nothing else, wherever it stands.
func TestUnifyOfNoKind(t *testing.T) {
	i := tyInt()
	others := append(noKinds(), tys("Int", "Bool", "L", "Int -> Int", "Int -> L")...)
	for _, a := range noKinds() {
		for _, b := range others {
			same := impl.SameTy(a, b)
			for _, l := range [][]impl.Ty{nil, {}, table("Int;?;L"), {a, b}} {
				wantSameOrNot(t, same, l, a, b)
				wantSameOrNot(t, same, l, b, a)
				wantSameOrNot(t, same, l, tyFun(i, a), tyFun(i, b))
				wantSameOrNot(t, same, l, tyFun(a, i), tyFun(b, i))
				wantSameOrNot(t, same, l, tyFun(b, a), tyFun(a, b))
				wantSameOrNot(t, same, l, tyFun(tyFun(a, i), a), tyFun(tyFun(b, i), a))
				wantNotUnified(t, l, tyFun(a, i), tyFun(b, tyBool()))
			}
			// Known as it, on either side and on both, and one behind the other.
			wantSameOrNot(t, same, []impl.Ty{a}, tyVar(0), b)
			wantSameOrNot(t, same, []impl.Ty{a}, b, tyVar(0))
			wantSameOrNot(t, same, []impl.Ty{a, b}, tyVar(0), tyVar(1))
			wantSameOrNot(t, same, []impl.Ty{tyVar(1), a}, tyFun(tyVar(0), i), tyFun(b, i))
			wantSameOrNot(t, same, []impl.Ty{tyFun(i, tyVar(1)), a}, tyVar(0), tyFun(i, b))
			// Known as it just now.
			if same {
				wantUnifiedTable(t, nil, tyFun(tyVar(0), tyVar(0)), tyFun(a, b), []impl.Ty{a})
				wantUnifiedTable(t, nil, tyFun(a, tyVar(0)), tyFun(tyVar(0), b), []impl.Ty{a})
			} else {
				wantNotUnified(t, nil, tyFun(tyVar(0), tyVar(0)), tyFun(a, b))
				wantNotUnified(t, nil, tyFun(a, tyVar(0)), tyFun(tyVar(0), b))
			}
		}
		wantUnifiedTable(t, nil, a, tyVar(0), []impl.Ty{a})
		wantUnifiedTable(t, nil, tyVar(0), a, []impl.Ty{a})
		wantUnifiedTable(t, table("?;Int"), tyFun(a, tyVar(0)), tyFun(a, tyVar(1)), table("Int;Int"))
	}
}

// The parts of what is of no kind are made the same like all others, in their order.
func TestUnifyOfPartsOfNoKind(t *testing.T) {
	of := func(texts ...string) impl.Ty { return tyList(7, tys(texts...)...) }
	wantUnified(t, nil, of("t0"), of("t0"), "")
	wantUnified(t, nil, of("t0"), of("Int"), "Int")
	wantUnified(t, nil, of("t0", "t1"), of("t1", "Int"), "Int; Int")
	wantUnified(t, table("?;Int"), of("t0 -> L"), of("t1 -> L"), "Int; Int")
	for _, c := range [][2]impl.Ty{
		{of("t0"), of("t0", "Int")}, {of("t0"), of()}, {of("t0", "t0"), of("Int", "L")}, {of("t0"), of("t0 -> Int")}, {of("t0", "Int"), of("L", "Bool")}, {of("t0"), tyList(6, tyInt())},
		{of("t500"), of("t500")}, {of("t-1"), of("t-1")}, {of("t500"), of("Int")},
	} {
		wantNotUnified(t, nil, c[0], c[1])
		wantNotUnified(t, nil, c[1], c[0])
	}
	// There is no end to it.
	wantNotUnified(t, []impl.Ty{of("t0")}, tyVar(0), tyVar(0))
	wantUnified(t, nil, of(slices.Repeat([]string{"Int"}, 19999)...), of(slices.Repeat([]string{"Int"}, 19999)...), "")
	wantNotUnified(t, nil, of(slices.Repeat([]string{"Int"}, 20000)...), of(slices.Repeat([]string{"Int"}, 20000)...))
}

// ofNoKind turns some parts into such as are of a kind that is none, the same of the same kind.
func ofNoKind(r *rand.Rand, t impl.Ty) impl.Ty {
	for i, x := range t.L {
		t.L[i] = ofNoKind(r, x)
	}
	if t.K != impl.TVar && r.Intn(3) == 0 {
		t.K = -t.K
		t.N = r.Intn(2)
	}
	return t
}

// P9 of what is of no kind, against what is told by hand.
func TestTypesOfNoKindMadeTheSameAreTheSame(t *testing.T) {
	r := rand.New(rand.NewSource(95))
	made, not := 0, 0
	for range 8000 {
		vars := 1 + r.Intn(5)
		l, a := anyTable(r, vars), ofNoKind(r, anyTy(r, 3, vars))
		b := impl.Known(nil, a)
		if r.Intn(2) == 0 {
			b = ofNoKind(r, anyTy(r, 3, vars))
		}
		for n := range l {
			l[n] = ofNoKind(r, l[n])
		}
		if sizeOfKnown(l, a, 400)+sizeOfKnown(l, b, 400) > 400 {
			continue
		}
		if checkUnifyByHand(t, l, a, b) {
			made++
		} else {
			not++
		}
	}
	if made < 3000 || not < 1000 {
		t.Errorf("%d were made the same, %d not", made, not)
	}
}

// What is of K 0, or a TFun of more or less than two parts, is not the same as any, not even as itself; a TVar may be known
// as it, unless that means unknown.
func TestUnifyOfWhatIsTheSameAsNothing(t *testing.T) {
	i := tyInt()
	for _, bad := range []impl.Ty{{}, {S: "L"}, {N: 3}, tyList(0, i, i), tyList(impl.TFun), tyList(impl.TFun, i), tyList(impl.TFun, i, i, i)} {
		for _, b := range append(tys("Int", "Bool", "L", "Int -> Int", "?7"), bad) {
			wantNotUnified(t, nil, bad, b)
			wantNotUnified(t, nil, b, bad)
			wantNotUnified(t, nil, tyFun(i, bad), tyFun(i, b))
			wantNotUnified(t, nil, tyFun(bad, i), tyFun(b, i))
			wantNotUnified(t, nil, tyFun(tyVar(0), tyVar(0)), tyFun(bad, b))
			wantNotUnified(t, table("?;Int"), tyFun(b, tyVar(0)), tyFun(bad, tyVar(1)))
			wantNotUnified(t, nil, tyList(7, bad), tyList(7, b))
		}
		if bad.K == 0 {
			wantNotUnified(t, nil, bad, tyVar(0))
			wantNotUnified(t, nil, tyVar(0), bad)
			wantNotUnified(t, nil, ty("t0 -> t1"), tyFun(i, bad))
		} else {
			wantUnifiedTable(t, nil, bad, tyVar(0), []impl.Ty{bad})
			wantUnifiedTable(t, nil, tyVar(0), bad, []impl.Ty{bad})
			wantNotUnified(t, []impl.Ty{bad}, tyVar(0), bad)
		}
		wantUnifiedTable(t, nil, tyVar(0), tyFun(i, bad), []impl.Ty{tyFun(i, bad)})
		wantUnifiedTable(t, nil, tyFun(bad, i), tyVar(0), []impl.Ty{tyFun(bad, i)})
	}
}

// What has more in it than its kind tells is the same only if all of it is, or becomes so.
func TestUnifyOfWhatHasMoreInIt(t *testing.T) {
	i := tyInt()
	for _, more := range []impl.Ty{
		{K: impl.TInt, S: "x"}, {K: impl.TInt, N: 3}, tyList(impl.TInt, i), {K: impl.TBool, S: "x"}, tyList(impl.TBool, i, i), {K: impl.TData, S: "L", N: 1}, {K: impl.TData, S: "L", L: tys("M")},
		{K: impl.TFun, S: "x", L: tys("Int", "L")}, {K: impl.TFun, N: -1, L: tys("Int", "L")},
	} {
		wantUnified(t, nil, more, more, "")
		wantUnifiedTable(t, nil, tyVar(0), more, []impl.Ty{more})
		wantUnifiedTable(t, nil, more, tyVar(0), []impl.Ty{more})
		for _, bare := range tys("Int", "Bool", "L", "Int -> L") {
			wantNotUnified(t, nil, more, bare)
			wantNotUnified(t, nil, bare, more)
		}
	}
	// The parts of such are looked at, in their order.
	wantUnified(t, nil, tyList(impl.TInt, tys("t0", "t1")...), tyList(impl.TInt, tys("t1", "Int")...), "Int; Int")
	wantNotUnified(t, nil, tyList(impl.TInt, tys("t0")...), tyList(impl.TInt, tys("t1", "Int")...))
	wantNotUnified(t, nil, tyVar(0), tyList(impl.TInt, tys("L", "t0")...))
	wantNotUnified(t, nil, tyVar(0), tyList(9, tys("L", "t0")...))
	wantNotUnified(t, nil, tyVar(0), impl.Ty{K: impl.TVar, N: 1, L: tys("t0")})
	// A TVar is the same as one of its number, but not if there is something else in it and it stays unknown.
	x, y := impl.Ty{K: impl.TVar, S: "x"}, impl.Ty{K: impl.TVar, L: tys("t1")}
	for _, v := range []impl.Ty{x, y} {
		wantUnified(t, nil, v, v, "")
		wantUnified(t, table("Int"), v, tyVar(0), "Int")
		wantUnified(t, table("Int"), v, tyInt(), "Int")
		wantUnified(t, nil, v, tyInt(), "Int")
		wantUnified(t, nil, tyInt(), v, "Int")
		wantNotUnified(t, nil, v, tyVar(0))
		wantNotUnified(t, nil, tyVar(0), v)
		wantNotUnified(t, nil, tyFun(v, tyVar(1)), tyFun(tyVar(0), i))
		wantUnified(t, nil, tyFun(v, tyVar(0)), tyFun(tyVar(0), i), "Int")
	}
	wantNotUnified(t, nil, x, y)
	wantUnified(t, nil, tyFun(y, tyVar(1)), tyFun(impl.Ty{K: impl.TVar, L: tys("Int")}, i), "t0; Int")
	wantNotUnified(t, nil, impl.Ty{K: impl.TVar, L: tys("t-1")}, impl.Ty{K: impl.TVar, L: tys("t-1")})
}

func TestVarsOf(t *testing.T) {
	want := func(x impl.Ty, numbers ...int) {
		t.Helper()
		if got := impl.VarsOf(x); !slices.Equal(got, numbers) {
			t.Errorf("VarsOf(%s) = %v; want %v", told(x), got, numbers)
		}
	}
	want(ty("Int"))
	want(ty("L -> (Int -> Bool) -> M"))
	want(ty("t0"), 0)
	want(ty("t7"), 7)
	want(ty("t4 -> t1 -> t4"), 4, 1)
	want(ty("t0 -> t0"), 0)
	want(ty("t1 -> t0 -> t1 -> t0"), 1, 0)
	want(ty("(t3 -> t2) -> t1"), 3, 2, 1)
	want(ty("((t5 -> Int) -> t4) -> (t5 -> t3) -> t4 -> t2"), 5, 4, 3, 2)
	want(ty("Int -> t9 -> (L -> t8) -> t9"), 9, 8)
	// A number is taken as it stands there, but only that of a TVar.
	want(ty("t-1 -> t500 -> t-1 -> t1000000"), -1, 500, 1000000)
	want(tyFun(tyVar(math.MinInt), tyVar(math.MaxInt)), math.MinInt, math.MaxInt)
	want(impl.Ty{K: impl.TData, S: "L", N: 3})
	want(impl.Ty{})
	want(impl.Ty{N: 4})
	// All parts are looked at, whatever the kind tells.
	for k := -2; k < 9; k++ {
		x := impl.Ty{K: k, N: 6, L: tys("t2", "Int -> t1", "t2", "t6", "t0")}
		if k == impl.TVar {
			want(x, 6, 2, 1, 0)
		} else {
			want(x, 2, 1, 6, 0)
		}
		want(tyFun(tyVar(1), tyList(k, tyList(9, x))), slices.Concat([]int{1}, without1(impl.VarsOf(tyList(k, x))))...)
	}
	want(tyList(impl.TFun, tyVar(3)), 3)
	want(tyList(impl.TFun, tys("t3", "t1", "t2")...), 3, 1, 2)
}

// without1 leaves out the number 1.
func without1(l []int) []int { return slices.DeleteFunc(l, func(n int) bool { return n == 1 }) }

// anyTy answers a type that is so deep at most, with TVars of numbers below vars.
func anyTy(r *rand.Rand, deep, vars int) impl.Ty {
	switch n := r.Intn(10); {
	case deep > 1 && n < 5:
		return tyFun(anyTy(r, deep-1, vars), anyTy(r, deep-1, vars))
	case vars > 0 && n < 8:
		return tyVar(r.Intn(vars))
	}
	return []impl.Ty{tyInt(), tyBool(), tyData("L"), tyData("M")}[r.Intn(4)]
}

// anyTable answers one in which nothing goes round: a TVar is known by those of greater numbers alone.
func anyTable(r *rand.Rand, vars int) []impl.Ty {
	l := []impl.Ty{}
	for n := range r.Intn(vars + 1) {
		x := impl.Ty{}
		if r.Intn(2) == 0 {
			x = shifted(anyTy(r, 3, vars), n+1, vars)
		}
		l = append(l, x)
	}
	return l
}

// shifted turns the numbers into such as are from least on; where there are none there is an Int.
func shifted(t impl.Ty, least, vars int) impl.Ty {
	if t.K == impl.TVar {
		if least >= vars {
			return tyInt()
		}
		return tyVar(least + t.N%(vars-least))
	}
	for i, x := range t.L {
		t.L[i] = shifted(x, least, vars)
	}
	return t
}

// spoilt answers a type with something in it that its kind does not tell, or that is of none.
func spoilt(r *rand.Rand, t impl.Ty) impl.Ty {
	if len(t.L) > 0 && r.Intn(3) > 0 {
		at := r.Intn(len(t.L))
		t.L[at] = spoilt(r, t.L[at])
		return t
	}
	switch r.Intn(7) {
	case 0:
		t.K = r.Intn(8) - 1
	case 1:
		t.S += "x"
	case 2:
		t.N = r.Intn(4)
	case 3:
		t.L = append(t.L, anyTy(r, 2, 3))
	case 4:
		t.L = nil
	case 5:
		t = wrongTys()[r.Intn(len(wrongTys()))]
	}
	return t
}

// sizeOfKnown answers how many parts a type has as far as it is known, or more than most.
func sizeOfKnown(l []impl.Ty, t impl.Ty, most int) int {
	for n := 0; n <= len(l) && t.K == impl.TVar && t.N >= 0 && t.N < len(l) && l[t.N].K != 0; n++ {
		t = l[t.N]
	}
	size := 1
	for _, x := range t.L {
		if size > most {
			return size
		}
		size += sizeOfKnown(l, x, most-size)
	}
	return size
}

// unifiedByHand makes both known anew, and makes the first TVar known by which they differ, until they are the same.
func unifiedByHand(t *testing.T, l []impl.Ty, a, b impl.Ty) []impl.Ty {
	l = slices.Clone(l)
	for range 1000 {
		x, y, differ := firstApart(knownByHand(l, a), knownByHand(l, b))
		if !differ {
			return l
		}
		if x.K != impl.TVar {
			x, y = y, x
		}
		if x.K != impl.TVar || strings.Contains(told(y)+";", told(x)+";") || strings.Contains(told(y)+"]", told(x)+"]") {
			return nil
		}
		for len(l) <= x.N {
			l = append(l, impl.Ty{})
		}
		l[x.N] = y
	}
	t.Error("by hand: there is no end to it")
	return nil
}

// firstApart answers the first parts that are not the same.
func firstApart(a, b impl.Ty) (impl.Ty, impl.Ty, bool) {
	if a.K != b.K || a.S != b.S || a.N != b.N || len(a.L) != len(b.L) {
		return a, b, true
	}
	for i := range a.L {
		if x, y, differ := firstApart(a.L[i], b.L[i]); differ {
			return x, y, true
		}
	}
	return a, b, false
}

// checkUnifyByHand holds Unify against what is told by hand, and answers whether they were made the same.
func checkUnifyByHand(t *testing.T, l []impl.Ty, a, b impl.Ty) bool {
	t.Helper()
	ok := checkUnified(t, l, a, b)
	out, _ := impl.Unify(l, a, b)
	if !ok {
		if unifiedByHand(t, l, a, b) != nil {
			t.Errorf("Unify(%s, %s, %s) = false", told(l), told(a), told(b))
		}
		return false
	}
	want := unifiedByHand(t, l, a, b)
	if len(want) != len(out) {
		t.Errorf("Unify(%s, %s, %s) = %s; want %s", told(l), told(a), told(b), told(out), told(want))
		return true
	}
	for n := range out {
		wantTy(t, "t"+strconv.Itoa(n)+" of Unify("+told(l)+", "+told(a)+", "+told(b)+")", impl.Known(out, tyVar(n)), knownByHand(want, tyVar(n)))
		// What was known stays as it was.
		if n < len(l) && l[n].K != 0 {
			wantTy(t, "t"+strconv.Itoa(n)+", known already", out[n], l[n])
		}
	}
	// Both are the same now: nothing more is asked for, and both ways round.
	wantUnifiedTable(t, out, a, b, out)
	wantUnifiedTable(t, out, b, a, out)
	return true
}

// P9: two types that are made the same are the same.
func TestTypesMadeTheSameAreTheSame(t *testing.T) {
	r := rand.New(rand.NewSource(9))
	made, not := 0, 0
	for range 12000 {
		vars := 1 + r.Intn(6)
		l, a, b := anyTable(r, vars), anyTy(r, 4, vars), anyTy(r, 4, vars)
		if sizeOfKnown(l, a, 400)+sizeOfKnown(l, b, 400) > 400 {
			continue
		}
		if checkUnifyByHand(t, l, a, b) {
			made++
		} else {
			not++
		}
	}
	if made < 3000 || not < 3000 {
		t.Errorf("%d were made the same, %d not", made, not)
	}
}

// P9 of one behind the other: what was made the same stays so, whatever is made the same behind it.
func TestTypesMadeTheSameStaySo(t *testing.T) {
	r := rand.New(rand.NewSource(91))
	pairs := 0
	for range 1500 {
		var l []impl.Ty
		var came [][2]impl.Ty
		for range 8 {
			a, b := anyTy(r, 3, 8), anyTy(r, 3, 8)
			out, ok := impl.Unify(l, a, b)
			if !ok {
				continue
			}
			l, came = out, append(came, [2]impl.Ty{a, b})
			for _, c := range came {
				if sizeOfKnown(l, c[0], 3000) > 3000 {
					continue
				}
				pairs++
				if !impl.SameTy(impl.Known(l, c[0]), impl.Known(l, c[1])) {
					t.Errorf("by %s %s and %s are not the same any more", told(l), told(c[0]), told(c[1]))
				}
			}
		}
	}
	if pairs < 10000 {
		t.Errorf("only %d pairs", pairs)
	}
}

// P9 of tables that go round, and of types with more or less in them than their kinds tell.
func TestWrongTypesMadeTheSameAreTheSame(t *testing.T) {
	r := rand.New(rand.NewSource(92))
	made := 0
	for range 8000 {
		l := []impl.Ty{}
		for range r.Intn(6) {
			x := impl.Ty{}
			if r.Intn(3) > 0 {
				x = tyVar(r.Intn(7) - 1)
			}
			if r.Intn(3) == 0 {
				x = anyTy(r, 3, 6)
			}
			if r.Intn(4) == 0 {
				x = spoilt(r, x)
			}
			l = append(l, x)
		}
		a := anyTy(r, 3, 6)
		b := anyTy(r, 3, 6)
		if r.Intn(3) == 0 {
			b = ty(impl.TyText(a))
		}
		if r.Intn(2) == 0 {
			a = spoilt(r, a)
		}
		if r.Intn(2) == 0 {
			b = spoilt(r, b)
		}
		if checkUnified(t, l, a, b) {
			made++
		}
		wantTy(t, "Known", impl.Known(l, a), knownByHand(l, a))
	}
	if made < 1500 {
		t.Errorf("only %d were made the same", made)
	}
}

func TestKnownByHand(t *testing.T) {
	r := rand.New(rand.NewSource(93))
	for range 3000 {
		l, x := anyTable(r, 8), anyTy(r, 5, 9)
		wantTy(t, "Known", impl.Known(l, x), knownByHand(l, x))
		// What is known as far as it is cannot be known any more.
		known := impl.Known(l, x)
		wantTy(t, "Known again", impl.Known(l, known), known)
		for _, n := range impl.VarsOf(known) {
			if n < len(l) && l[n].K != 0 {
				t.Errorf("Known(%s, %s) has t%d in it", told(l), told(x), n)
			}
		}
	}
}

// Types far too deep, too wide, of lists that many share, and of lists that stand in themselves.
func TestTypesWithoutEnd(t *testing.T) {
	const deep = 60000
	right, left := endingWith(deep, tyVar(1)), tyVar(1)
	for range deep {
		left = tyFun(left, tyVar(0))
	}
	wide := tyList(impl.TFun, slices.Repeat(tys("Int", "t0", "t1"), deep)...)
	twice := tyVar(1)
	for range 100 {
		twice = tyFun(twice, twice)
	}
	l := make([]impl.Ty, 2)
	l[0], l[1] = impl.Ty{K: impl.TFun, L: l}, tyVar(1)
	ring := l[0]
	back := make([]impl.Ty, 3)
	back[0], back[1], back[2] = tyVar(1), impl.Ty{K: impl.TInt, L: back}, impl.Ty{K: 9, L: back[1:]}
	many := make([]impl.Ty, 3000)
	for i := range many {
		many[i] = impl.Ty{K: impl.TFun, L: many[i/2:]}
	}
	many[2999] = tyVar(1)
	for what, c := range map[string]struct {
		x    impl.Ty
		vars []int
	}{
		"to the right": {right, []int{1}}, "to the left": {left, []int{1, 0}}, "wide": {wide, []int{0, 1}}, "twice and twice": {twice, []int{1}},
		"round": {ring, []int{1}}, "round by others": {tyFun(back[1], back[2]), []int{1}},
	} {
		if got := impl.VarsOf(c.x); !slices.Equal(got, c.vars) {
			t.Errorf("%s: VarsOf = %v", what, got)
		}
		if !impl.SameTy(c.x, c.x) || impl.SameTy(c.x, tyInt()) || impl.SameTy(tyFun(c.x, tyInt()), tyFun(c.x, tyBool())) || !impl.SameTy(tyFun(c.x, tyInt()), tyFun(c.x, tyInt())) {
			t.Errorf("%s: SameTy", what)
		}
		wantTyText(t, c.x, "")
		// By nothing it is what it was.
		known := impl.Known(nil, c.x)
		if !impl.SameTy(known, c.x) {
			t.Errorf("%s: Known", what)
		}
		if known.L[0].K = 77; c.x.L[0].K == 77 {
			t.Errorf("%s: what Known answers shares memory with what it was handed", what)
		}
		for _, ask := range [][]impl.Ty{{tyVar(2), c.x}, {c.x, tyVar(2)}, {c.x, c.x}, {c.x, tyInt()}} {
			out, ok := impl.Unify([]impl.Ty{{}, {}, {}, c.x.L[0]}, ask[0], ask[1])
			if ok || len(out) != 4 || out[3].K != c.x.L[0].K || len(out[3].L) != len(c.x.L[0].L) {
				t.Errorf("%s: Unify = %d, %v", what, len(out), ok)
			}
		}
		if out, ok := impl.Unify([]impl.Ty{{}, {}, {}, c.x}, tyVar(0), tyInt()); !ok || len(out) != 4 || !impl.SameTy(out[3], c.x) || !impl.SameTy(out[0], tyInt()) {
			t.Errorf("%s: in a table", what)
		}
	}
	if got := impl.VarsOf(many[0]); !slices.Equal(got, []int{1}) {
		t.Errorf("many lists: VarsOf = %v", got)
	}
	if out, ok := impl.Unify([]impl.Ty{{}, many[0]}, tyVar(0), tyInt()); !ok || len(out) != 2 || len(out[1].L) != 3000 {
		t.Errorf("many lists: Unify = %v", ok)
	}
}

// typeCall is a table and two types, with room behind all lists.
type typeCall struct {
	Table []impl.Ty
	A, B  impl.Ty
}

// typeAnswers are all that is answered of it.
type typeAnswers struct {
	Known       []impl.Ty
	Back, Forth []impl.Ty
	Vars        [][]int
}

func askTypes(c typeCall) (a typeAnswers) {
	a.Known = []impl.Ty{impl.Known(c.Table, c.A), impl.Known(c.Table, c.B), impl.Known(nil, c.A)}
	a.Forth, _ = impl.Unify(c.Table, c.A, c.B)
	a.Back, _ = impl.Unify(c.Table, c.B, c.A)
	a.Vars = [][]int{impl.VarsOf(c.A), impl.VarsOf(c.B)}
	impl.SameTy(c.A, c.B)
	impl.TyText(c.A)
	return a
}

// typeCalls are those in which a list could come to stand at two places: of the arguments, and of what is answered.
func typeCalls() []typeCall {
	fun := ty("(Int -> L) -> t5")
	shared := tyFun(fun, fun)
	known := []impl.Ty{fun, {}, tyVar(0), shared, {K: 0, S: "x", L: tys("Int", "t1")}}
	l := []typeCall{
		{nil, tyVar(0), fun}, {nil, fun, tyVar(0)}, {nil, ty("t0 -> t1 -> t2"), tyFun(fun, tyFun(fun, fun))}, {nil, tyFun(tyVar(0), tyVar(0)), shared}, {nil, tyFun(tyVar(0), tyVar(1)), shared}, {nil, shared, shared},
		{known, tyVar(1), tyVar(0)}, {known, tyVar(1), tyVar(2)}, {known, ty("t1 -> t6"), ty("t0 -> t3")}, {known, shared, tyFun(tyVar(1), tyVar(6))}, {known, tyVar(0), tyVar(2)}, {known, shared, tyInt()}, {known, ty("t1 -> Int"), tyFun(fun, tyBool())},
		{known, tyVar(4), shared}, {known, tyVar(500), shared}, {table("t0 -> L"), tyVar(0), tyVar(1)}, {table("t1;t0"), tyVar(0), ty("Int -> L")}, {[]impl.Ty{}, impl.Ty{}, impl.Ty{}},
		{nil, tyVar(0), impl.Ty{K: 9, S: "x", L: []impl.Ty{fun, fun}}}, {nil, impl.Ty{K: impl.TVar, L: []impl.Ty{fun}}, impl.Ty{K: impl.TVar, L: []impl.Ty{fun}}},
	}
	r := rand.New(rand.NewSource(94))
	for range 60 {
		l = append(l, typeCall{anyTable(r, 5), anyTy(r, 3, 5), anyTy(r, 3, 5)})
	}
	return l
}

func TestTypesAreNewMemory(t *testing.T) {
	for i, base := range typeCalls() {
		what := "call " + strconv.Itoa(i)
		// As they come, with lists that are shared, and each with a room of its own behind it.
		sharesNothing(t, what+", as it comes", reflect.ValueOf(askTypes(base).Known[0]))
		sharesNothing(t, what+", as it comes", reflect.ValueOf(askTypes(base)))
		c := roomy(reflect.ValueOf(base)).Interface().(typeCall)
		kept := toldWithRoom(reflect.ValueOf(c))
		want := told(askTypes(base))
		for range 3 {
			got := askTypes(c)
			if told(got) != want {
				t.Errorf("%s: an answer hangs on the room behind, or was kept: %s; want %s", what, told(got), want)
			}
			sharesNothing(t, what, reflect.ValueOf(struct {
				Asked    typeCall
				Answered typeAnswers
			}{c, got}))
			spoilAll(reflect.ValueOf(&got).Elem())
		}
		if toldWithRoom(reflect.ValueOf(c)) != kept {
			t.Errorf("%s was written into", what)
		}
	}
}

// spoilAll writes into all lists, and into the room behind them.
func spoilAll(v reflect.Value) {
	switch v.Kind() {
	case reflect.Int:
		v.SetInt(-5)
	case reflect.String:
		v.SetString("changed")
	case reflect.Struct:
		for i := range v.NumField() {
			spoilAll(v.Field(i))
		}
	case reflect.Slice:
		all := v.Slice(0, v.Cap())
		for i := range all.Len() {
			spoilAll(all.Index(i))
		}
	}
}

// What was answered of one table is nothing to another, and what lies behind its length is none of it.
func TestNothingIsKeptOfTypes(t *testing.T) {
	one, other := table("Int;t0 -> t0"), table("L;?")
	for range 3 {
		wantKnown(t, one, knowing{"t0 -> t1", "Int -> Int -> Int"})
		wantKnown(t, other, knowing{"t0 -> t1", "L -> t1"})
		wantUnified(t, one, tyVar(2), tyVar(1), "Int; Int -> Int; Int -> Int")
		wantUnified(t, other, tyVar(1), tyInt(), "L; Int")
		wantNotUnified(t, one, tyVar(0), tyData("L"))
		wantUnified(t, nil, tyVar(0), tyData("L"), "L")
	}
	wantKnown(t, one[:1], knowing{"t0 -> t1", "Int -> t1"})
	wantUnified(t, one[:1], tyVar(1), tyBool(), "Int; Bool")
	wantKnown(t, one, knowing{"t1", "Int -> Int"})
	x := tyList(impl.TFun, tys("t0", "t1", "t2")...)
	x.L = x.L[:2]
	wantTyText(t, x, "t0 -> t1")
	wantTy(t, "behind the length", impl.Known(nil, x), ty("t0 -> t1"))
	wantUnified(t, nil, x, ty("Int -> L"), "Int; L")
}
