package tests

import (
	"math/rand"
	"slices"
	"testing"

	"loop.example/g00471/impl"
)

// swapByHand goes from the front on, with a call in each call, and knows all names that are bound around.
func swapByHand(e impl.Exp, around []string, old, new string) impl.Exp {
	out := impl.Exp{K: e.K, S: e.S, N: e.N}
	inBody, inDecs := around, around
	switch {
	case e.K == impl.EVar && e.S == old && !slices.Contains(around, old):
		out.S = new
	case e.K == impl.ELam:
		inBody = slices.Concat(around, []string{e.S})
	case e.K == impl.ELet:
		inBody = slices.Concat(around, decNames(e.Decs))
		inDecs = inBody
	}
	for _, x := range e.L {
		out.L = append(out.L, swapByHand(x, inBody, old, new))
	}
	out.Decs = swapDecsByHand(e.Decs, inDecs, old, new)
	for _, a := range e.Alts {
		out.Alts = append(out.Alts, alt(a.Great, swapByHand(a.E, slices.Concat(around, a.Vars), old, new), slices.Clone(a.Vars)...))
	}
	return out
}

func swapDecsByHand(l []impl.Dec, around []string, old, new string) []impl.Dec {
	var out []impl.Dec
	for _, d := range l {
		within := slices.Concat(around, d.Pars, decNames(d.Where))
		own := dec(d.Name, swapByHand(d.E, within, old, new), slices.Clone(d.Pars)...)
		own.Where = swapDecsByHand(d.Where, within, old, new)
		out = append(out, own)
	}
	return out
}

func decNames(l []impl.Dec) []string {
	names := []string{}
	for _, d := range l {
		names = append(names, d.Name)
	}
	return names
}

func renameByHand(p impl.Prog, old, new string) impl.Prog {
	out := impl.Prog{Datas: p.Datas, Decs: swapDecsByHand(p.Decs, nil, old, new)}
	for i, d := range out.Decs {
		if d.Name == old {
			out.Decs[i].Name = new
		}
	}
	return out
}

// turnedNames answers the names with new in the place of old, ascending.
func turnedNames(l []string, old, new string) []string {
	out := []string{}
	for _, s := range l {
		if s == old {
			s = new
		}
		out = append(out, s)
	}
	slices.Sort(out)
	return slices.Compact(out)
}

// Swap of many Exps, right and wrong, against that by hand; with a fresh name it is free where the old one was, and turned
// back all is as it was.
func TestSwapOfManyExps(t *testing.T) {
	names := []string{"a", "b", "c", "d", "_", "c1", "dD", "none"}
	turned, kept := 0, 0
	for i, e := range manyExps(2000) {
		free, bound, size := impl.FreeOf(e), impl.BoundOf(e), impl.Size(e)
		for _, old := range names {
			new := names[i%len(names)]
			if got, want := impl.Swap(e, old, new), swapByHand(e, nil, old, new); told(got) != told(want) {
				t.Fatalf("Swap of %q to %q in %+v = %+v; want %+v", old, new, e, got, want)
			}
			got := impl.Swap(e, old, "fresh")
			if told(got) != told(swapByHand(e, nil, old, "fresh")) {
				t.Fatalf("Swap of %q to a fresh one in %+v = %+v", old, e, got)
			}
			wantNames(t, "FreeOf", impl.FreeOf(got), turnedNames(free, old, "fresh")...)
			wantNames(t, "BoundOf", impl.BoundOf(got), bound...)
			isFree := slices.Contains(free, old)
			if !impl.SameExp(impl.Swap(got, "fresh", old), e) || impl.SameExp(got, e) == isFree || impl.Size(got) != size {
				t.Fatalf("Swap of %q to a fresh one, and back, in %+v = %+v", old, e, got)
			}
			if isFree {
				turned++
			} else {
				kept++
			}
		}
	}
	if turned < 1000 || kept < 1000 {
		t.Error("too few to tell:", turned, kept)
	}
}

// A turning counts what there was of programs that were turned.
type turning struct {
	used, unused, alone, elsewhere int
	kinds                          map[int]int
}

// checkTurned holds P14 of the Dec old of p, which has types: turned to new, which stands nowhere, it does the same.
func checkTurned(t *testing.T, p impl.Prog, old, new string, fuels []int, seen *turning) {
	t.Helper()
	q, code := impl.Rename(p, old, new)
	if code != impl.ToGood || told(q) != told(renameByHand(p, old, new)) {
		t.Fatalf("%sRename of %s to %s = %d\n%s", impl.ProgText(p), old, new, code, impl.ProgText(q))
	}
	checkSameTypes(t, p, q, old, new)
	for _, fuel := range fuels {
		before, behind := impl.Run(p, fuel), impl.Run(q, fuel)
		if !impl.Same(before, behind) || told(before) != told(behind) {
			t.Fatalf("%sRename of %s to %s: with %d it came to %s, and comes to %s", impl.ProgText(p), old, new, fuel, impl.ResText(before), impl.ResText(behind))
		}
		seen.kinds[before.K]++
	}
	checkAskedForNoMore(t, p, q, old, seen)
	checkTurnedBack(t, p, q, old, new)
}

func checkSameTypes(t *testing.T, p, q impl.Prog, old, new string) {
	t.Helper()
	binds, _ := impl.TypesOf(p)
	for i, b := range binds {
		if b.Name == old {
			binds[i].Name = new
		}
	}
	if got, ok := impl.TypesOf(q); !ok || !impl.TypeOk(q) || told(got) != told(binds) {
		t.Fatalf("%sRename of %s to %s: of the types %s, %v; want %s", impl.ProgText(p), old, new, bindsText(got), ok, bindsText(binds))
	}
}

// checkAskedForNoMore: the old name is free in no Dec, and stands nowhere at all where it is not bound elsewhere.
func checkAskedForNoMore(t *testing.T, p, q impl.Prog, old string, seen *turning) {
	t.Helper()
	asked, bound := map[string]int{}, map[string]int{}
	wasFree := false
	for i, d := range p.Decs {
		standingInDec(d, asked, bound)
		wasFree = wasFree || slices.Contains(impl.FreeOfDec(d), old)
		if slices.Contains(impl.FreeOfDec(q.Decs[i]), old) {
			t.Fatalf("%s%s is asked for though it was turned", impl.ProgText(q), old)
		}
	}
	isElsewhere := bound[old] > 1
	if slices.Contains(impl.NamesOf(q), old) != isElsewhere {
		t.Fatalf("%s%s stands there: %v; want %v", impl.ProgText(q), old, !isElsewhere, isElsewhere)
	}
	if wasFree {
		seen.used++
	} else {
		seen.unused++
	}
	if isElsewhere {
		seen.elsewhere++
	} else {
		seen.alone++
	}
}

// checkTurnedBack: turned back it is the one ahead, unless the first name stands elsewhere, too.
func checkTurnedBack(t *testing.T, p, q impl.Prog, old, new string) {
	t.Helper()
	want, wantCode := p, impl.ToGood
	if slices.Contains(impl.NamesOf(q), old) {
		want, wantCode = q, impl.ToTaken
	}
	if back, code := impl.Rename(q, new, old); code != wantCode || !impl.SameProg(back, want) {
		t.Fatalf("%sRename of %s to %s, and back = %d\n%s", impl.ProgText(p), old, new, code, impl.ProgText(back))
	}
}

// P14: of many programs that have types each name is turned to a fresh one.
func TestANameThatIsTurnedDoesTheSame(t *testing.T) {
	r := rand.New(rand.NewSource(14))
	g := progMaker{r, 1000}
	fresh := []string{"fresh", "z", "longname", "f0", "q9Z"}
	seen := turning{kinds: map[int]int{}}
	for n := range 300 {
		p := anyProg(t, g)
		if n%2 == 0 {
			p = g.prog(t)
		}
		if !impl.TypeOk(p) {
			continue
		}
		for _, d := range p.Decs {
			fuels := []int{0, 1, 2, 3, 7, r.Intn(60), r.Intn(600), r.Intn(impl.MaxFuel), impl.MaxFuel}
			if d.Name != "main" {
				checkTurned(t, p, d.Name, fresh[r.Intn(len(fresh))], fuels, &seen)
			}
		}
	}
	if min(seen.used, seen.unused, seen.alone, seen.elsewhere) < 200 {
		t.Errorf("too few to tell: %+v", seen)
	}
	for _, k := range []int{impl.RNum, impl.RCon, impl.RFun, impl.RFail, impl.RHole, impl.RFuel} {
		if seen.kinds[k] < 50 {
			t.Error("too few to tell, of the kind", k, seen.kinds)
		}
	}
}

// Rename of many programs, with and without types, of any name to any: the code by hand, and what comes of it.
func TestRenameOfAnyNames(t *testing.T) {
	r := rand.New(rand.NewSource(1414))
	names := []string{"a", "b", "f", "g", "h", "x", "x0", "i", "k", "any", "main", "fresh", "A", "", "_", "let", "toolongis", "m n"}
	codes := map[int]int{}
	for n := range 1500 {
		p := progMaker{r, []int{1000, 30}[n%2]}.prog(t)
		for range 6 {
			old, new := names[r.Intn(len(names))], names[r.Intn(12)]
			if r.Intn(4) == 0 {
				new = names[r.Intn(len(names))]
			}
			want, wantCode := p, renameCodeByHand(p, old, new)
			if wantCode == impl.ToGood {
				want = renameByHand(p, old, new)
			}
			got, code := impl.Rename(p, old, new)
			if code != wantCode || told(got) != told(want) {
				t.Fatalf("%sRename of %q to %q = %d; want %d\n%s", impl.ProgText(p), old, new, code, wantCode, impl.ProgText(got))
			}
			codes[code]++
		}
	}
	for _, code := range []int{impl.ToGood, impl.ToForm, impl.ToNone, impl.ToTaken} {
		if codes[code] < 300 {
			t.Error("too few to tell:", codes)
		}
	}
}

func renameCodeByHand(p impl.Prog, old, new string) int {
	asked, bound := map[string]int{}, map[string]int{}
	for _, d := range p.Decs {
		standingInDec(d, asked, bound)
	}
	switch {
	case !impl.TypeOk(p), !impl.NameOk(new):
		return impl.ToForm
	case !slices.Contains(decNames(p.Decs), old), old == "main":
		return impl.ToNone
	case asked[new]+bound[new] > 0:
		return impl.ToTaken
	}
	return impl.ToGood
}
