package tests

import (
	"runtime/debug"
	"slices"
	"strconv"
	"strings"
	"testing"

	"loop.example/g00471/impl"
)

// written is a K that no type here is of.
const written = -4242

// heldLists are a list that was answered, and what it should be.
type heldLists struct{ got, want []impl.Ty }

// wantOwnMemory holds got against want, and writes into each part of got, and into the room behind its lists: a part that
// was written into when it is come to stands at two places. It answers how many parts there are.
func wantOwnMemory(t *testing.T, what string, got, want []impl.Ty) int {
	t.Helper()
	parts := 0
	for left := []heldLists{{got, want}}; len(left) > 0; {
		l := left[len(left)-1]
		left = left[:len(left)-1]
		if len(l.got) != len(l.want) {
			t.Fatalf("%s: a list of %d parts; want %d", what, len(l.got), len(l.want))
		}
		parts += len(l.got)
		for i, x := range l.got {
			if x.K == written {
				t.Fatalf("%s: two lists share memory", what)
			}
			if y := l.want[i]; x.K != y.K || x.S != y.S || x.N != y.N {
				t.Fatalf("%s: %d %q %d; want %d %q %d", what, x.K, x.S, x.N, y.K, y.S, y.N)
			}
			if len(x.L)+len(l.want[i].L) > 0 {
				left = append(left, heldLists{x.L, l.want[i].L})
			}
		}
		for i := range l.got[:cap(l.got)] {
			l.got[:cap(l.got)][i].K = written
		}
	}
	return parts
}

// isWritten answers whether one of them was written into, wherever in them, or in the room behind.
func isWritten(l []impl.Ty) bool {
	seen := map[*impl.Ty]int{}
	for left := [][]impl.Ty{l}; len(left) > 0; {
		one := left[len(left)-1]
		left = left[:len(left)-1]
		one = one[:cap(one)]
		for _, x := range one {
			if x.K == written {
				return true
			}
			// A longer list may begin where a shorter one does.
			if room := cap(x.L); room > 0 && seen[&x.L[:1][0]] < room {
				seen[&x.L[:1][0]] = room
				left = append(left, x.L)
			}
		}
	}
	return false
}

// wantOwn is wantOwnMemory of an answer of just so many parts, which shares nothing with what was handed in either.
func wantOwn(t *testing.T, what string, n int, got, want, handed []impl.Ty) {
	t.Helper()
	what += " of " + strconv.Itoa(n) + " parts"
	if parts := wantOwnMemory(t, what, got, want); parts != n {
		t.Errorf("%s: the answer has %d", what, parts)
	}
	if isWritten(handed) {
		t.Errorf("%s: the answer shares memory with an argument", what)
	}
}

func partsIn(l ...impl.Ty) int {
	parts := 0
	for left := [][]impl.Ty{l}; len(left) > 0; {
		one := left[len(left)-1]
		left = left[:len(left)-1]
		parts += len(one)
		for _, x := range one {
			if len(x.L) > 0 {
				left = append(left, x.L)
			}
		}
	}
	return parts
}

// filled answers a type of just n parts with l in front, and as many Ints behind as it takes.
func filled(n int, l ...impl.Ty) impl.Ty {
	lack := n - 1 - partsIn(l...)
	return tyList(9, slices.Concat(l, slices.Repeat(tys("Int"), lack))...)
}

// doubledTy answers a type whose TFuns each have one list twice below: of at most n parts.
func doubledTy(n int) impl.Ty {
	x := tyData("L")
	for parts := 1; 2*parts+1 <= n; parts = 2*parts + 1 {
		x = tyFun(x, x)
	}
	return x
}

// A shape is a type of just n parts.
type shape struct {
	what string
	of   func(n int) impl.Ty
}

// commonShapes are such as have lists in common, and one that has none.
func commonShapes() []shape {
	return []shape{
		{"a wide list at four places", func(n int) impl.Ty {
			wide := slices.Repeat(tys("L"), n/5)
			return filled(n, tyList(9, wide...), tyFun(tyList(impl.TVar, wide...), tyList(7, wide...)), tyList(impl.TInt, wide...))
		}},
		{"one list twice, again and again", func(n int) impl.Ty { return filled(n, doubledTy(n-1)) }},
		{"a deep type at three places", func(n int) impl.Ty {
			deep := endingWith(n/8, ty("t0 -> L"))
			return filled(n, deep, tyFun(deep, deep))
		}},
		{"lists that are pieces of one", func(n int) impl.Ty {
			long := slices.Repeat(tys("L", "t3", "Bool"), n/15)
			return filled(n, tyList(9, long...), tyList(9, long[1:]...), tyList(9, long[:len(long)/2]...), tyList(9, long[len(long)/2:]...), tyList(9, long[5:7]...), tyList(9, long...))
		}},
		{"nothing in common", func(n int) impl.Ty {
			return filled(n, endingWith(n/8, tyVar(1)), endingWith(n/8, tyVar(1)), tyList(9, slices.Repeat(tys("L"), n/8)...))
		}},
	}
}

// The numbers of parts: fewer than 1 << 20, one less, just as many, one more, and one more behind the 3000 of Known.
func partNumbers() []int {
	const many = 1 << 20
	return []int{100, 5000, many - 1, many, many + 1, many + 3001}
}

func wantKnownOwn(t *testing.T, what string, n int, x impl.Ty) {
	t.Helper()
	wantOwn(t, what+": Known", n, []impl.Ty{impl.Known(nil, x)}, []impl.Ty{x}, []impl.Ty{x})
}

// wantUnifyOwn is handed a shape with which the table that is answered has n parts.
func wantUnifyOwn(t *testing.T, s shape, n int) {
	t.Helper()
	l := []impl.Ty{{}, s.of(n - 1)}
	out, ok := impl.Unify(l, tyInt(), tyInt())
	wantOwn(t, s.what+": Unify, of the same", n, out, l, l)
	not, notOk := impl.Unify(l, ty("t0 -> Int"), ty("L -> Bool"))
	wantOwn(t, s.what+": Unify, of what cannot be", n, not, l, l)
	// With two TVars that become known as one list of an argument.
	l, fun := []impl.Ty{{}, s.of(n - 7)}, ty("Int -> L")
	more, moreOk := impl.Unify(l, tyFun(tyVar(0), tyVar(3)), tyFun(fun, tyVar(0)))
	wantOwn(t, s.what+": Unify, of TVars", n, more, []impl.Ty{ty("Int -> L"), l[1], {}, ty("Int -> L")}, append(l, fun))
	if !ok || notOk || !moreOk {
		t.Errorf("%s: Unify = %v, %v, %v", s.what, ok, notOk, moreOk)
	}
}

func TestNoListsOfTypesShareMemory(t *testing.T) {
	for _, s := range commonShapes() {
		for _, n := range partNumbers() {
			wantKnownOwn(t, s.what, n, s.of(n))
			wantUnifyOwn(t, s, n)
		}
	}
}

func TestNoListsOfManyMorePartsShareMemory(t *testing.T) {
	const many = 3<<20 + 3
	for _, s := range commonShapes() {
		wantKnownOwn(t, s.what, many, s.of(many))
		wantUnifyOwn(t, s, many)
	}
	twice := commonShapes()[1]
	wantKnownOwn(t, twice.what, 1<<23, twice.of(1<<23))
}

// What is known as a type in which it stands itself has all that is beside it in it some 3000 times over.
func TestNoListsKnownAgainAndAgainShareMemory(t *testing.T) {
	for what, beside := range map[string]impl.Ty{
		"a chain of no arrow": tyInt(), "a chain of one arrow": ty("Int -> t1"), "a chain of 170 arrows": endingWith(170, tyVar(0)), "a chain of 400 arrows": endingWith(400, tyVar(0)),
		"a wide list": tyList(9, slices.Repeat(tys("L"), 300)...), "one list twice, again and again": doubledTy(300),
	} {
		for _, l := range [][]impl.Ty{{tyFun(tyVar(0), beside)}, {tyVar(1), tyList(7, tyVar(2), beside, beside), tyFun(tyVar(0), tyInt())}} {
			least := partsIn(knownByHand(l, tyList(9, tyVar(0))))
			for _, n := range []int{least, 1 << 20, 1<<20 + 1, 1<<20 + 3001} {
				if n < least {
					continue
				}
				x := tyList(9, slices.Concat([]impl.Ty{tyVar(0)}, slices.Repeat(tys("Int"), n-least))...)
				wantOwn(t, what+", again and again: Known", n, []impl.Ty{impl.Known(l, x)}, []impl.Ty{knownByHand(l, x)}, append(l, x))
			}
		}
	}
}

// Of just over 1 << 28 parts: it needs some 16 gigabytes.
func TestNoListsOfSomeGigabytesShareMemory(t *testing.T) {
	const places, wide = 450, 600000
	defer debug.FreeOSMemory()
	l := slices.Repeat([]impl.Ty{tyList(impl.TInt, slices.Repeat(tys("Int"), wide)...)}, places)
	got, ok := impl.Unify(l, tyInt(), tyInt())
	if !ok {
		t.Error("Unify = false")
	}
	wantOwn(t, "a wide list at 450 places: Unify", places*(1+wide), got, l, l)
}

// A text that stands at many places takes no more memory than it is long.
func TestLongTextsOfTypes(t *testing.T) {
	long := strings.Repeat("L", 1000000)
	l := slices.Repeat(tys("Int"), 20000)
	for i := range l {
		l[i] = tyData(long)
	}
	known := impl.Known(nil, tyList(9, l...))
	out, ok := impl.Unify(l, tyInt(), tyInt())
	if len(known.L) != len(l) || len(out) != len(l) || !ok || known.L[19999].S != long || out[0].S != long || out[19999].S != long {
		t.Error("a long text at many places is another one")
	}
}

// writeAll writes into each part once, also of lists that are shared.
func writeAll(l []impl.Ty) {
	for left := [][]impl.Ty{l}; len(left) > 0; {
		one := left[len(left)-1]
		left = left[:len(left)-1]
		for i := range one {
			if one[i].K != written && len(one[i].L) > 0 {
				left = append(left, one[i].L)
			}
			one[i].K = written
		}
	}
}

// timesDoubled is of 2 to the times and one more parts, less one.
func timesDoubled(times int) impl.Ty {
	x := tyData("L")
	for range times {
		x = tyFun(x, x)
	}
	return x
}

// Of what no memory holds all parts the answer is the same, too, and shares nothing with what was handed in.
func TestTypesThatCannotBeHeld(t *testing.T) {
	ring := tys("Int", "t1", "L")
	ring[1].L = ring
	chain := endingWith(500000, tyInt())
	large := timesDoubled(28)
	for what, c := range map[string]struct {
		l []impl.Ty
		x impl.Ty
	}{
		"twice, 31 times": {nil, timesDoubled(31)}, "twice, 64 times": {nil, timesDoubled(64)}, "twice, 300 times": {nil, timesDoubled(300)},
		"one that could be held, at nine places": {nil, tyList(9, slices.Repeat([]impl.Ty{large}, 9)...)},
		"a chain, again and again":               {[]impl.Ty{tyFun(tyVar(0), chain)}, tyVar(0)},
		"a list that stands in itself":           {nil, tyFun(timesDoubled(3), tyList(9, ring...))},
	} {
		handed := append(slices.Clone(c.l), c.x)
		known := impl.Known(c.l, c.x)
		if want := c.x; len(c.l) == 0 && !impl.SameTy(known, want) || len(c.l) > 0 && !impl.SameTy(known, knownByHand(c.l, want)) {
			t.Errorf("%s: Known is another one", what)
		}
		writeAll([]impl.Ty{known})
		for _, b := range []impl.Ty{tyInt(), tyBool()} {
			out, ok := impl.Unify(handed, tyInt(), b)
			if ok != (b.K == impl.TInt) || len(out) != len(handed) || !impl.SameTy(out[len(out)-1], c.x) {
				t.Errorf("%s: Unify is another one: %v", what, ok)
			}
			writeAll(out)
		}
		if isWritten(handed) {
			t.Errorf("%s: an answer shares memory with an argument", what)
		}
	}
}
