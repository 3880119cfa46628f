package tests

import (
	"math/rand"
	"slices"
	"strconv"
	"testing"

	"loop.example/g00471/impl"
)

// A saying is a way in which a Dec is said anew: of the program, and by hand.
type saying struct {
	what string
	turn func(p impl.Prog, name string) (impl.Prog, int)
	hand func(d impl.Dec) (impl.Dec, int)
	// All that it may answer of a Dec of a program that has types.
	codes []int
}

var (
	whereToLet = saying{"WhereToLet", impl.WhereToLet, whereToLetByHand, []int{impl.ToGood, impl.ToNot, impl.ToLarge}}
	letToWhere = saying{"LetToWhere", impl.LetToWhere, letToWhereByHand, []int{impl.ToGood, impl.ToNot, impl.ToTaken}}
	toLam      = saying{"ToLam", impl.ToLam, toLamByHand, []int{impl.ToGood, impl.ToNot, impl.ToLarge}}
)

func sayings() []saying { return []saying{whereToLet, letToWhere, toLam} }

func whereToLetByHand(d impl.Dec) (impl.Dec, int) {
	if len(d.Where) == 0 {
		return d, impl.ToNot
	}
	return dec(d.Name, let(d.E, d.Where...), d.Pars...), impl.ToGood
}

func letToWhereByHand(d impl.Dec) (impl.Dec, int) {
	if len(d.Where) > 0 || d.E.K != impl.ELet {
		return d, impl.ToNot
	}
	for _, w := range d.E.Decs {
		for _, par := range d.Pars {
			if w.Name == par {
				return d, impl.ToTaken
			}
		}
	}
	return with(dec(d.Name, d.E.L[0], d.Pars...), d.E.Decs...), impl.ToGood
}

func toLamByHand(d impl.Dec) (impl.Dec, int) {
	if len(d.Pars) == 0 {
		return d, impl.ToNot
	}
	e := d.E
	if len(d.Where) > 0 {
		e = let(e, d.Where...)
	}
	for n := len(d.Pars); n > 0; n-- {
		e = lam(d.Pars[n-1], e)
	}
	return dec(d.Name, e), impl.ToGood
}

// deepOf answers how deep the deepest part of e is, which is itself so deep.
func deepOf(e impl.Exp, deep int) int {
	most := deep
	for _, x := range e.L {
		most = max(most, deepOf(x, deep+1))
	}
	for _, a := range e.Alts {
		most = max(most, deepOf(a.E, deep+1))
	}
	return max(most, deepOfDecs(e.Decs, deep+1))
}

func deepOfDecs(l []impl.Dec, deep int) int {
	most := 0
	for _, d := range l {
		most = max(most, deepOf(d.E, deep+1), deepOfDecs(d.Where, deep+1))
	}
	return most
}

// isLargeByHand is of what has types but for how large and deep it is.
func isLargeByHand(p impl.Prog) bool { return sizeOfDecs(p.Decs) > 200 || deepOfDecs(p.Decs, 0) > 12 }

// saidByHand answers the program as it is, where there is a code that refuses.
func saidByHand(p impl.Prog, name string, s saying) (impl.Prog, int) {
	if !impl.TypeOk(p) {
		return p, impl.ToForm
	}
	for i, d := range p.Decs {
		if d.Name != name {
			continue
		}
		turned, code := s.hand(d)
		if code != impl.ToGood {
			return p, code
		}
		q := impl.Prog{Datas: p.Datas, Decs: slices.Concat(p.Decs[:i], decs(turned), p.Decs[i+1:])}
		if isLargeByHand(q) {
			return p, impl.ToLarge
		}
		return q, impl.ToGood
	}
	return p, impl.ToNone
}

// Some fuels, of which a few are soon used up.
func someFuels() []int { return []int{0, 1, 2, 3, 4, 5, 7, 10, 20, 100, 1000, impl.MaxFuel} }

// A sayingCount counts what there was of programs that were said anew, by the way, the code and the kind of result.
type sayingCount struct {
	codes map[naming]int
	kinds map[int]int
	backs map[bool]int
}

func newSayingCount() sayingCount {
	return sayingCount{map[naming]int{}, map[int]int{}, map[bool]int{}}
}

// checkSaid holds P15 of one Dec of a program, and answers the code.
func checkSaid(t *testing.T, p impl.Prog, name string, s saying, fuels []int, seen sayingCount) int {
	t.Helper()
	q, code := s.turn(p, name)
	if want, wantCode := saidByHand(p, name, s); code != wantCode || told(q) != told(want) {
		t.Fatalf("%s%s of %s = %d; want %d\n%s", impl.ProgText(p), s.what, name, code, wantCode, impl.ProgText(q))
	}
	seen.codes[naming{s.what, strconv.Itoa(code)}]++
	if code != impl.ToGood {
		return code
	}
	checkSameTypes(t, p, q, name, name)
	checkSameBare(t, p, q, s.what+" of "+name)
	for _, fuel := range fuels {
		before, behind := impl.Run(p, fuel), impl.Run(q, fuel)
		if !impl.Same(before, behind) || told(before) != told(behind) {
			t.Fatalf("%s%s of %s: with %d it came to %s, and comes to %s", impl.ProgText(p), s.what, name, fuel, impl.ResText(before), impl.ResText(behind))
		}
		seen.kinds[before.K]++
	}
	checkThereAndBack(t, p, q, name, s, seen)
	return code
}

// checkSameBare: what is said behind and what is said ahead are the same when they are bare, and ask for the same names.
func checkSameBare(t *testing.T, p, q impl.Prog, what string) {
	t.Helper()
	for i, d := range p.Decs {
		if told(impl.BareDec(d)) != told(impl.BareDec(q.Decs[i])) || d.Name != q.Decs[i].Name {
			t.Fatalf("%s%s: bare, %s is another one", impl.ProgText(p), what, d.Name)
		}
		wantNames(t, what, impl.FreeOfDec(q.Decs[i]), impl.FreeOfDec(d)...)
	}
	wantNames(t, what, impl.NamesOf(q), impl.NamesOf(p)...)
}

// checkThereAndBack is of what was said anew: said the other way it is the one ahead, unless a name stands in the way.
func checkThereAndBack(t *testing.T, p, q impl.Prog, name string, s saying, seen sayingCount) {
	t.Helper()
	if again, code := s.turn(q, name); s.what != letToWhere.what && (code != impl.ToNot || !impl.SameProg(again, q)) {
		t.Fatalf("%s%s of %s, twice = %d\n%s", impl.ProgText(p), s.what, name, code, impl.ProgText(again))
	}
	want, wantCode, back := p, impl.ToGood, impl.WhereToLet
	switch s.what {
	case toLam.what:
		return
	case whereToLet.what:
		back = impl.LetToWhere
		if d := decNamed(p, name); slices.ContainsFunc(decNames(d.Where), func(w string) bool { return slices.Contains(d.Pars, w) }) {
			want, wantCode = q, impl.ToTaken
		}
	}
	if got, code := back(q, name); code != wantCode || !impl.SameProg(got, want) {
		t.Fatalf("%s%s of %s, and back = %d; want %d\n%s", impl.ProgText(p), s.what, name, code, wantCode, impl.ProgText(got))
	}
	seen.backs[wantCode == impl.ToGood]++
}

func decNamed(p impl.Prog, name string) impl.Dec {
	return p.Decs[slices.Index(decNames(p.Decs), name)]
}

// alike answers a name out of these, of which many are alike.
func (g progMaker) alike(p impl.Prog, d impl.Dec) string {
	l := slices.Concat(d.Pars, d.Pars, d.Pars, []string{d.Name, "w", "v", "f", "x", "x0"}, decNames(p.Decs))
	if s := l[g.Intn(len(l))]; s != "_" {
		return s
	}
	return "w"
}

// locals answers Decs for a Where or a let of d, which need each other, d and its Pars, whether that fits or not.
func (g progMaker) locals(p impl.Prog, d impl.Dec) []impl.Dec {
	l := []impl.Dec{}
	for range 1 + g.Intn(3) {
		if s := g.alike(p, d); !slices.Contains(decNames(l), s) {
			l = append(l, dec(s, num(1)))
		}
	}
	for i := range l {
		switch g.Intn(6) {
		case 0:
			l[i].E = vr(g.alike(p, d))
		case 1:
			l[i].E = vr(l[g.Intn(len(l))].Name)
		case 2:
			l[i] = dec(l[i].Name, vr("y"), "y")
		case 3:
			l[i] = with(dec(l[i].Name, vr("y"), "_"), dec("y", vr(g.alike(p, d))))
		}
	}
	return l
}

// sayAnew puts a Where behind some of the Decs, or a let ahead, and Pars alike.
func (g progMaker) sayAnew(p impl.Prog) impl.Prog {
	q := impl.Prog{Datas: p.Datas, Decs: slices.Clone(p.Decs)}
	for i, d := range q.Decs {
		d.Pars = slices.Clone(d.Pars)
		if n := len(d.Pars); n > 0 && g.Intn(4) == 0 {
			d.Pars[g.Intn(n)] = []string{"_", d.Name, g.alike(p, d)}[g.Intn(3)]
		}
		switch g.Intn(5) {
		case 0, 3:
			if len(d.Where) == 0 {
				d.Where = g.locals(p, d)
			}
		case 1:
			d.E = let(d.E, g.locals(p, d)...)
		case 2:
			l := g.locals(p, d)
			d.E = let(vr(l[0].Name), l...)
		}
		// One that does not fit is left as it was.
		was := q.Decs[i]
		if q.Decs[i] = d; !impl.TypeOk(q) {
			q.Decs[i] = was
		}
	}
	return q
}

// padded has a Dec more, so that it is of so many Exps in all, or all but.
func padded(p impl.Prog, n int) impl.Prog {
	left := n - sizeOfDecs(p.Decs)
	if left < 3 || len(p.Decs) == 12 {
		return p
	}
	return impl.Prog{Datas: p.Datas, Decs: append(slices.Clone(p.Decs), dec("pad", sumOf(left, num(1))))}
}

// P15: of many programs that have types each Dec is said ahead and behind, and what comes of it does the same.
func TestWhatIsSaidBehindAndThenAheadDoesTheSame(t *testing.T) {
	r := rand.New(rand.NewSource(15))
	g := progMaker{r, 1000}
	seen := newSayingCount()
	for n := range 300 {
		p := anyProg(t, g)
		if n%2 == 0 {
			p = g.prog(t)
		}
		if !impl.TypeOk(p) {
			continue
		}
		p = g.sayAnew(p)
		if n%4 > 1 {
			p = padded(p, 199+r.Intn(2))
		}
		for _, d := range p.Decs {
			fuels := []int{0, 1, 2 + r.Intn(10), r.Intn(60), r.Intn(600), impl.MaxFuel}
			for _, s := range sayings() {
				checkSaid(t, p, d.Name, s, fuels, seen)
			}
		}
	}
	for _, s := range sayings() {
		for _, code := range s.codes {
			if often := seen.codes[naming{s.what, strconv.Itoa(code)}]; often < 50 {
				t.Error("too few to tell, of", s.what, "and the code", code, ":", often)
			}
		}
	}
	for _, k := range []int{impl.RNum, impl.RCon, impl.RFun, impl.RFail, impl.RHole, impl.RFuel} {
		if seen.kinds[k] < 50 {
			t.Error("too few to tell, of the kind", k, seen.kinds)
		}
	}
	if min(seen.backs[true], seen.backs[false]) < 50 {
		t.Error("too few to tell, of there and back:", seen.backs)
	}
}

// Many turns, one behind the other: whatever was turned ahead, what comes of it does the same.
func TestManySayingsOfOneProgram(t *testing.T) {
	r := rand.New(rand.NewSource(1515))
	g := progMaker{r, 1000}
	seen := newSayingCount()
	for range 150 {
		first := g.sayAnew(g.prog(t))
		if !impl.TypeOk(first) {
			continue
		}
		p := first
		for range 12 {
			name := p.Decs[r.Intn(len(p.Decs))].Name
			s := sayings()[r.Intn(3)]
			if checkSaid(t, p, name, s, []int{r.Intn(600)}, seen) == impl.ToGood {
				p, _ = s.turn(p, name)
			}
		}
		checkSameBare(t, first, p, "many turns")
		for _, fuel := range []int{0, 5, r.Intn(60), r.Intn(600), impl.MaxFuel} {
			if !impl.Same(impl.Run(first, fuel), impl.Run(p, fuel)) {
				t.Fatalf("%sof many turns came what does something else:\n%s", impl.ProgText(first), impl.ProgText(p))
			}
		}
	}
}

// Of many programs, with types and without, and names of all sorts: the code by hand, and what comes of it.
func TestSayingsOfAnyNames(t *testing.T) {
	r := rand.New(rand.NewSource(151))
	names := []string{"a", "b", "f", "g", "h", "x", "x0", "i", "k", "any", "main", "main", "none", "A", "C", "", "_", "let", "toolongis", "m n"}
	seen := newSayingCount()
	for n := range 1500 {
		g := progMaker{r, []int{1000, 30}[n%2]}
		p := g.prog(t)
		if impl.TypeOk(p) {
			p = g.sayAnew(p)
		}
		for range 4 {
			checkSaid(t, p, names[r.Intn(len(names))], sayings()[r.Intn(3)], []int{r.Intn(100)}, seen)
		}
	}
	for _, s := range sayings() {
		for _, code := range []int{impl.ToGood, impl.ToForm, impl.ToNone, impl.ToNot} {
			if often := seen.codes[naming{s.what, strconv.Itoa(code)}]; often < 50 {
				t.Error("too few to tell, of", s.what, "and the code", code, ":", often)
			}
		}
	}
}
