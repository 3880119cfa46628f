package tests

import (
	"maps"
	"math/rand"
	"slices"
	"testing"

	"loop.example/g00471/impl"
)

// notCallable is told where something is called that is no function, or looked at as what it is not: no kind of a Res.
const notCallable = -1

// A sight is what the names of a place stand for.
type sight map[string]*held

// A held is what a name, or a part, stands for: Pars, a Where and a body which nobody has asked for yet, or what they came to.
type held struct {
	pars  []string
	where []impl.Dec
	e     impl.Exp
	env   sight
	asks  bool
	is    *handed
}

// A handed is what was come to: a number, what a Con made or still lacks parts for, or a function with its Pars left.
type handed struct {
	n     int
	great string
	parts []*held
	lacks int
	fun   *held
}

func (x *handed) isMade(great string) bool { return x.fun == nil && x.great == great && x.lacks == 0 }

func (x *handed) isNum() bool { return x.fun == nil && x.great == "" }

// A wait is what is to be done with what is come to next, by what it says.
type wait struct {
	then string
	e    impl.Exp
	env  sight
	on   *held
	left int
}

// A walker runs a program as it stands, with Pars and Wheres, by a list of what waits: without a call in a call.
type walker struct {
	p     impl.Prog
	fuel  int
	waits []wait
	// Why it goes on no more, or 0.
	why int
}

func (w *walker) stop(why int) *handed {
	if w.why == 0 {
		w.why = why
	}
	return nil
}

func (w *walker) push(x wait) { w.waits = append(w.waits, x) }

func (w *walker) burnt() bool {
	if w.fuel == 0 {
		w.stop(impl.RFuel)
		return false
	}
	w.fuel--
	return true
}

func (env sight) within(l []impl.Dec) sight {
	env = maps.Clone(env)
	for _, d := range l {
		env[d.Name] = &held{pars: d.Pars, where: d.Where, e: d.E, env: env}
	}
	return env
}

// ask answers what c is, or nil, if that is still to be come to, or it stops.
func (w *walker) ask(c *held) *handed {
	if c.is != nil {
		return c.is
	}
	if c.asks {
		return w.stop(impl.RHole)
	}
	c.asks = true
	w.push(wait{then: "keep", on: c})
	return w.enter(c.pars, c)
}

// enter goes into the Pars that are left, then the Where, then the body: each Par is an Exp, and so is a Where.
func (w *walker) enter(pars []string, c *held) *handed {
	if len(pars) > 0 {
		if !w.burnt() {
			return nil
		}
		return &handed{fun: &held{pars: pars, where: c.where, e: c.e, env: c.env}}
	}
	env := c.env
	if len(c.where) > 0 {
		if !w.burnt() {
			return nil
		}
		env = env.within(c.where)
	}
	return w.exp(c.e, env)
}

func (w *walker) exp(e impl.Exp, env sight) *handed {
	if !w.burnt() {
		return nil
	}
	switch e.K {
	case impl.EVar:
		return w.ask(env[e.S])
	case impl.EGreat:
		return &handed{great: e.S, lacks: impl.ArityOf(w.p, e.S)}
	case impl.ENum:
		return &handed{n: e.N}
	case impl.ELam:
		return &handed{fun: &held{pars: []string{e.S}, e: e.L[0], env: env}}
	case impl.ELet:
		return w.exp(e.L[0], env.within(e.Decs))
	case impl.ECase:
		return w.alts(e, env, &held{e: e.L[0], env: env}, 0)
	}
	// A call, an if and an operator ask for their first part.
	w.push(wait{then: "first", e: e, env: env})
	return w.exp(e.L[0], env)
}

// alts tries those from the given one on.
func (w *walker) alts(e impl.Exp, env sight, seen *held, from int) *handed {
	for i := from; i < len(e.Alts); i++ {
		a := e.Alts[i]
		if a.Great == "" {
			env = maps.Clone(env)
			env[a.Vars[0]] = seen
			return w.exp(a.E, env)
		}
		if seen.is == nil {
			w.push(wait{then: "alts", e: e, env: env, on: seen, left: i})
			return w.ask(seen)
		}
		if seen.is.fun != nil || seen.is.great == "" || seen.is.lacks > 0 {
			return w.stop(notCallable)
		}
		if seen.is.isMade(a.Great) {
			env = maps.Clone(env)
			for j, s := range a.Vars {
				env[s] = seen.is.parts[j]
			}
			return w.exp(a.E, env)
		}
	}
	return w.stop(impl.RFail)
}

func (w *walker) called(f *handed, with *held) *handed {
	switch {
	case f.fun != nil:
		c := *f.fun
		c.env = maps.Clone(c.env)
		c.env[c.pars[0]] = with
		return w.enter(c.pars[1:], &c)
	case f.lacks > 0:
		return &handed{great: f.great, parts: append(slices.Clone(f.parts), with), lacks: f.lacks - 1}
	}
	return w.stop(notCallable)
}

// first goes on behind the first part of a call, an if or an operator.
func (w *walker) first(x wait, is *handed) *handed {
	switch {
	case x.e.K == impl.EApp:
		return w.called(is, &held{e: x.e.L[1], env: x.env})
	case x.e.K == impl.EOp && is.isNum():
		w.push(wait{then: x.e.S, left: is.n})
		return w.exp(x.e.L[1], x.env)
	case x.e.K == impl.EIf && is.isMade("True"):
		return w.exp(x.e.L[1], x.env)
	case x.e.K == impl.EIf && is.isMade("False"):
		return w.exp(x.e.L[2], x.env)
	}
	return w.stop(notCallable)
}

func (w *walker) op(s string, a int, b *handed) *handed {
	if !b.isNum() {
		return w.stop(notCallable)
	}
	holds := s == "==" && a == b.n || s == "<" && a < b.n
	n := map[string]int{"+": a + b.n, "-": a - b.n, "*": a * b.n}
	if _, is := n[s]; is {
		return &handed{n: n[s] - n[s]/1000000*1000000}
	}
	return &handed{great: map[bool]string{true: "True", false: "False"}[holds]}
}

// come answers what c comes to, or nil, if it stops.
func (w *walker) come(c *held) *handed {
	w.waits = nil
	is := w.ask(c)
	for len(w.waits) > 0 && w.why == 0 {
		x := w.waits[len(w.waits)-1]
		w.waits = w.waits[:len(w.waits)-1]
		switch x.then {
		case "keep":
			x.on.is, x.on.asks = is, false
		case "alts":
			is = w.alts(x.e, x.env, x.on, x.left)
		case "first":
			is = w.first(x, is)
		default:
			is = w.op(x.then, x.left, is)
		}
	}
	return is
}

// all answers what c comes to, and its parts.
func (w *walker) all(c *held, deep int) impl.Res {
	if deep > 4 || w.why != 0 {
		return impl.Res{K: impl.RMore}
	}
	is := w.come(c)
	if w.why != 0 {
		return impl.Res{}
	}
	switch {
	case is.fun != nil || is.lacks > 0:
		return impl.Res{K: impl.RFun}
	case is.great == "":
		return impl.Res{K: impl.RNum, N: is.n}
	}
	r := impl.Res{K: impl.RCon, S: is.great}
	for _, part := range is.parts {
		r.L = append(r.L, w.all(part, deep+1))
	}
	return r
}

// resByHand answers what a program with types comes to, and how much of the fuel is left.
func resByHand(p impl.Prog, fuel int) (impl.Res, int) {
	w := &walker{p: p, fuel: fuel}
	r := w.all(&held{e: vr("main"), env: sight{}.within(p.Decs)}, 1)
	if w.why != 0 {
		r = impl.Res{K: w.why}
	}
	return r, w.fuel
}

// anyProg answers a program whose main is of any type. What fits everywhere asks for itself, fits nowhere, or has no end;
// some have Alts missing, great numbers, or much to do.
func anyProg(t *testing.T, g progMaker) impl.Prog {
	p := progRead(t, given+"from n = C n (from (n + 1))\nup n = if n < 1 then n else n * n + up (n - 1)\nsum l = case l of { N -> 0 ; C h t -> h + sum t }\n")
	p.Decs[0].E = expOf(t, []string{"any", "i any", "case 1 < 1 of { True -> any }", "let f x = f (i x) in f 1"}[g.Intn(4)])
	l, env := g.decs([]seen{{"from", ty("Int -> L")}, {"up", ty("Int -> Int")}, {"sum", ty("L -> Int")}}, 4)
	p.Decs = append(p.Decs, l...)
	goal := g.ty()
	if g.Intn(2) == 0 {
		goal = tyData("L")
	}
	p.Decs = append(p.Decs, dec("main", g.exp(goal, env, 5)))
	spoilDecs(g.Rand, p.Decs)
	return p
}

func spoilDecs(r *rand.Rand, l []impl.Dec) {
	for i := range l {
		spoilExp(r, &l[i].E)
		spoilDecs(r, l[i].Where)
	}
}

func spoilExp(r *rand.Rand, e *impl.Exp) {
	if n := len(e.Alts); n > 1 && r.Intn(6) == 0 {
		i := r.Intn(n)
		e.Alts = slices.Delete(e.Alts, i, i+1)
	}
	if n := len(e.Alts); n > 1 && r.Intn(6) == 0 {
		slices.Reverse(e.Alts)
	}
	if e.K == impl.ENum && r.Intn(12) == 0 {
		e.N = 999990 + r.Intn(10)
	}
	for i := range e.L {
		spoilExp(r, &e.L[i])
	}
	for i := range e.Alts {
		spoilExp(r, &e.Alts[i].E)
	}
	spoilDecs(r, e.Decs)
}

// checkRunByHand holds Run at one fuel against what it comes to by hand.
func checkRunByHand(t *testing.T, p impl.Prog, fuel int) impl.Res {
	t.Helper()
	got := impl.Run(p, fuel)
	if want, _ := resByHand(p, fuel); told(got) != told(want) {
		t.Fatalf("%sRun of %d = %+v; by hand %+v", impl.ProgText(p), fuel, got, want)
	}
	return got
}

// P12 and P10: of programs that have types, what has ended is the same with one more of fuel, and with all that there may
// be; and none comes to a call of what is no function, which by hand is told apart from all that a Run may answer.
func TestWithMoreFuelWhatHasEndedIsTheSame(t *testing.T) {
	g := progMaker{rand.New(rand.NewSource(12)), 1000}
	kinds, many := map[int]int{}, 0
	for range 1000 {
		p := anyProg(t, g)
		if !impl.TypeOk(p) {
			continue
		}
		last, left := resByHand(p, impl.MaxFuel)
		kinds[last.K]++
		if last.K == notCallable {
			t.Fatalf("%shas types, and comes to a call of what is no function", impl.ProgText(p))
		}
		most := checkRunByHand(t, p, impl.MaxFuel)
		used := impl.MaxFuel - left
		fuels := []int{0, 1, 2, 3, used / 2, used/2 + 1, used - 2, used - 1, used, used + 1, used + 50, g.Intn(60), g.Intn(600), g.Intn(impl.MaxFuel)}
		if used > 100 {
			many++
		}
		for _, n := range fuels {
			if n < 0 || n >= impl.MaxFuel {
				continue
			}
			got, more := checkRunByHand(t, p, n), checkRunByHand(t, p, n+1)
			if impl.Ended(got) && (!impl.Same(got, more) || !impl.Same(got, most)) {
				t.Fatalf("%shas ended with %d, and is another one with more fuel: %+v, %+v, %+v", impl.ProgText(p), n, got, more, most)
			}
			if impl.Ended(got) != (n >= used && impl.Ended(most)) {
				t.Fatalf("%stakes %d of fuel, and with %d has ended: %v", impl.ProgText(p), used, n, impl.Ended(got))
			}
		}
	}
	for _, k := range []int{impl.RNum, impl.RCon, impl.RFun, impl.RFail, impl.RHole, impl.RFuel} {
		if kinds[k] < 15 {
			t.Error("too few to tell, of the kind", k, kinds)
		}
	}
	if many < 50 {
		t.Error("too few that take more than 100:", many)
	}
}
