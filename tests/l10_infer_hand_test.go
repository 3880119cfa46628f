package tests

import (
	"maps"
	"math/rand"
	"slices"
	"strconv"
	"testing"

	"loop.example/g00471/impl"
)

// A term is a type by hand: a TVar is an own one, and goes on to what it came to be. How deep in groups it was made tells
// whether it is of a name around.
type term struct {
	k     int
	s     string
	parts []*term
	to    *term
	deep  int
}

// openDeep is of those that are others wherever they are used.
const openDeep = 1 << 30

// A handTyping finds types by hand.
type handTyping struct {
	p     impl.Prog
	asked []*term
	deep  int
}

// noType is what it panics with.
type noType struct{}

func (x *term) end() *term {
	for x.to != nil {
		x = x.to
	}
	return x
}

func leaf(k int) *term { return &term{k: k} }

func arrow(a, b *term) *term { return &term{k: impl.TFun, parts: []*term{a, b}} }

func termOf(t impl.Ty) *term {
	x := &term{k: t.K, s: t.S}
	for _, part := range t.L {
		x.parts = append(x.parts, termOf(part))
	}
	return x
}

func (h *handTyping) ask() *term {
	x := &term{k: impl.TVar, deep: h.deep}
	h.asked = append(h.asked, x)
	return x
}

func same(a, b *term) {
	a, b = a.end(), b.end()
	switch {
	case a == b:
	case a.k == impl.TVar:
		b.keepFrom(a)
		a.to = b
	case b.k == impl.TVar:
		same(b, a)
	case a.k != b.k || a.s != b.s:
		panic(noType{})
	default:
		for i := range a.parts {
			same(a.parts[i], b.parts[i])
		}
	}
}

// keepFrom gives up where x stands in itself; all in it is from then on as far out as x.
func (t *term) keepFrom(x *term) {
	t = t.end()
	if t == x {
		panic(noType{})
	}
	t.deep = min(t.deep, x.deep)
	for _, part := range t.parts {
		part.keepFrom(x)
	}
}

func (t *term) open(deep int) {
	t = t.end()
	if t.k == impl.TVar && t.deep > deep {
		t.deep = openDeep
	}
	for _, part := range t.parts {
		part.open(deep)
	}
}

func (h *handTyping) use(t *term, others map[*term]*term) *term {
	t = t.end()
	if t.k == impl.TVar {
		if t.deep == openDeep && others[t] == nil {
			others[t] = h.ask()
		}
		if others[t] != nil {
			return others[t]
		}
		return t
	}
	x := &term{k: t.k, s: t.s}
	for _, part := range t.parts {
		x.parts = append(x.parts, h.use(part, others))
	}
	return x
}

func (h *handTyping) decs(l []impl.Dec, env map[string]*term) map[string]*term {
	env = maps.Clone(env)
	names, needs := needsByHand(l)
	for _, group := range groupsByHand(names, needs, reachesByHand(names, needs)) {
		h.deep++
		for _, s := range group {
			env[s] = h.ask()
		}
		for _, d := range l {
			if slices.Contains(group, d.Name) {
				same(h.dec(d, env), env[d.Name])
			}
		}
		h.deep--
		for _, s := range group {
			env[s].open(h.deep)
		}
	}
	return env
}

func (h *handTyping) dec(d impl.Dec, env map[string]*term) *term {
	env = maps.Clone(env)
	pars := []*term{}
	for _, s := range d.Pars {
		env[s] = h.ask()
		pars = append(pars, env[s])
	}
	t := h.exp(d.E, h.decs(d.Where, env))
	for _, x := range slices.Backward(pars) {
		t = arrow(x, t)
	}
	return t
}

func (h *handTyping) con(great string) (args []*term, made *term) {
	for _, d := range h.p.Datas {
		for _, c := range d.Cons {
			if c.Name == great {
				for _, t := range c.Args {
					args = append(args, termOf(t))
				}
				return args, &term{k: impl.TData, s: d.Name}
			}
		}
	}
	return nil, leaf(impl.TBool)
}

func (h *handTyping) exp(e impl.Exp, env map[string]*term) *term {
	part := func(i int) *term { return h.exp(e.L[i], env) }
	switch e.K {
	case impl.EVar:
		return h.use(env[e.S], map[*term]*term{})
	case impl.EGreat:
		args, t := h.con(e.S)
		for _, x := range slices.Backward(args) {
			t = arrow(x, t)
		}
		return t
	case impl.EApp:
		t := h.ask()
		same(arrow(part(1), t), part(0))
		return t
	case impl.ELam:
		env = maps.Clone(env)
		env[e.S] = h.ask()
		return arrow(env[e.S], part(0))
	case impl.ELet:
		return h.exp(e.L[0], h.decs(e.Decs, env))
	case impl.ECase:
		return h.caseOf(e, part(0), env)
	case impl.EIf:
		same(part(0), leaf(impl.TBool))
		t := part(2)
		same(t, part(1))
		return t
	case impl.EOp:
		same(part(0), leaf(impl.TInt))
		same(part(1), leaf(impl.TInt))
		if e.S == "==" || e.S == "<" {
			return leaf(impl.TBool)
		}
	}
	return leaf(impl.TInt)
}

func (h *handTyping) caseOf(e impl.Exp, seen *term, env map[string]*term) *term {
	t := h.ask()
	for _, x := range slices.Backward(e.Alts) {
		within := maps.Clone(env)
		of := []*term{seen}
		if x.Great != "" {
			args, made := h.con(x.Great)
			same(made, seen)
			of = args
		}
		for i, s := range x.Vars {
			within[s] = of[i]
		}
		same(h.exp(x.E, within), t)
	}
	return t
}

// tyOf tells its numbers by the places where they come first.
func (t *term) tyOf(numbers map[*term]int) impl.Ty {
	t = t.end()
	if t.k == impl.TVar {
		if _, is := numbers[t]; !is {
			numbers[t] = len(numbers)
		}
		return tyVar(numbers[t])
	}
	x := impl.Ty{K: t.k, S: t.s}
	for _, part := range t.parts {
		x.L = append(x.L, part.tyOf(numbers))
	}
	return x
}

// typesByHand is handed what is ScopeOk.
func typesByHand(p impl.Prog) (binds []impl.Bind, found bool) {
	defer func() {
		if r := recover(); r != nil {
			if _, is := r.(noType); !is {
				panic(r)
			}
			binds, found = nil, false
		}
	}()
	h := &handTyping{p: p}
	env := h.decs(p.Decs, map[string]*term{})
	if len(h.asked) > impl.MaxVars {
		return nil, false
	}
	for _, x := range h.asked {
		if partsByHand(x.tyOf(map[*term]int{})) > 3000 {
			return nil, false
		}
	}
	for _, d := range p.Decs {
		binds = append(binds, impl.Bind{Name: d.Name, T: env[d.Name].tyOf(map[*term]int{})})
	}
	return binds, true
}

// checkTypesByHand answers whether there are types.
func checkTypesByHand(t *testing.T, p impl.Prog) bool {
	t.Helper()
	want, found := typesByHand(p)
	got, ok := impl.TypesOf(p)
	if ok != found || told(got) != told(want) {
		t.Errorf("%s\nTypesOf = %s, %v; by hand %s, %v", impl.ProgText(p), bindsText(got), ok, bindsText(want), found)
	}
	return ok
}

// A value is what something came to: a number, what a Con made or is still short of parts for, or a function.
type value struct {
	n     int
	great string
	parts []*cell
	lacks int
	call  func(*cell) *value
}

// A cell is asked for at most once.
type cell struct {
	work func() *value
	is   *value
	asks bool
}

// Why it does not go on.
const (
	noFuel = iota + 1
	noEnd
	noAlt
	notAFunction
	notATruth
	notANumber
	notMade
)

type stuck struct{ why int }

type machine struct {
	p    impl.Prog
	fuel int
}

func (c *cell) get() *value {
	if c.asks {
		panic(stuck{noEnd})
	}
	if c.is == nil {
		c.asks = true
		c.is = c.work()
		c.asks = false
	}
	return c.is
}

func (m *machine) cellOf(e impl.Exp, env map[string]*cell) *cell {
	return &cell{work: func() *value { return m.exp(e, env) }}
}

func (m *machine) lam(pars []string, env map[string]*cell, body func(map[string]*cell) *value) *value {
	if len(pars) == 0 {
		return body(env)
	}
	return &value{call: func(c *cell) *value {
		within := maps.Clone(env)
		within[pars[0]] = c
		return m.lam(pars[1:], within, body)
	}}
}

func (m *machine) decs(l []impl.Dec, env map[string]*cell) map[string]*cell {
	env = maps.Clone(env)
	for _, d := range l {
		env[d.Name] = &cell{work: func() *value {
			return m.lam(d.Pars, env, func(within map[string]*cell) *value { return m.exp(d.E, m.decs(d.Where, within)) })
		}}
	}
	return env
}

func (m *machine) called(f *value, c *cell) *value {
	switch {
	case f.call != nil:
		return f.call(c)
	case f.lacks > 0:
		return &value{great: f.great, parts: append(slices.Clip(f.parts), c), lacks: f.lacks - 1}
	}
	panic(stuck{notAFunction})
}

func (m *machine) burn() {
	m.fuel--
	if m.fuel < 0 {
		panic(stuck{noFuel})
	}
}

func (m *machine) exp(e impl.Exp, env map[string]*cell) *value {
	m.burn()
	switch e.K {
	case impl.EVar:
		return env[e.S].get()
	case impl.EGreat:
		return &value{great: e.S, lacks: impl.ArityOf(m.p, e.S)}
	case impl.EApp:
		return m.called(m.exp(e.L[0], env), m.cellOf(e.L[1], env))
	case impl.ELam:
		return m.lam([]string{e.S}, env, func(within map[string]*cell) *value { return m.exp(e.L[0], within) })
	case impl.ELet:
		return m.exp(e.L[0], m.decs(e.Decs, env))
	case impl.ECase:
		return m.caseOf(e, m.cellOf(e.L[0], env), env)
	case impl.EIf:
		switch v := m.exp(e.L[0], env); v.great {
		case "True":
			return m.exp(e.L[1], env)
		case "False":
			return m.exp(e.L[2], env)
		}
		panic(stuck{notATruth})
	case impl.EOp:
		return m.op(e.S, m.num(e.L[0], env), m.num(e.L[1], env))
	}
	return &value{n: e.N}
}

func (m *machine) caseOf(e impl.Exp, seen *cell, env map[string]*cell) *value {
	for _, x := range e.Alts {
		within := maps.Clone(env)
		of := []*cell{seen}
		if x.Great != "" {
			v := seen.get()
			if v.great == "" || v.lacks > 0 {
				panic(stuck{notMade})
			}
			if v.great != x.Great {
				continue
			}
			of = v.parts
		}
		for i, s := range x.Vars {
			within[s] = of[i]
		}
		return m.exp(x.E, within)
	}
	panic(stuck{noAlt})
}

func (m *machine) num(e impl.Exp, env map[string]*cell) int {
	v := m.exp(e, env)
	if v.great != "" || v.call != nil {
		panic(stuck{notANumber})
	}
	return v.n
}

func (m *machine) op(s string, a, b int) *value {
	truth := map[bool]string{true: "True", false: "False"}
	switch s {
	case "+":
		return &value{n: a + b}
	case "-":
		return &value{n: a - b}
	case "*":
		return &value{n: a * b}
	case "==":
		return &value{great: truth[a == b]}
	}
	return &value{great: truth[a < b]}
}

// all asks for what it was made of, too, and hands something to a function.
func (m *machine) all(v *value, given []*cell) {
	m.burn()
	for _, c := range v.parts {
		m.all(c.get(), given)
	}
	if v.call != nil && len(given) > 0 {
		m.all(v.call(given[0]), given[1:])
	}
}

// runByHand answers why a name of a program does not come to an end, or 0.
func runByHand(p impl.Prog, name string, fuel int) (why int) {
	defer func() {
		if r := recover(); r != nil {
			why = r.(stuck).why
		}
	}()
	m := &machine{p, fuel}
	env := m.decs(p.Decs, map[string]*cell{})
	// What has no end fits everywhere.
	endless := &cell{work: func() *value { panic(stuck{noEnd}) }}
	m.all(env[name].get(), []*cell{endless, endless})
	return 0
}

func isWrong(why int) bool { return why >= notAFunction }

// A seen is a name that may be used, and of which type: of any to the same, if that is none.
type seen struct {
	name string
	ty   impl.Ty
}

// A progMaker makes programs that mostly have types.
type progMaker struct {
	*rand.Rand
	slips int
}

func (g progMaker) ty() impl.Ty {
	return ty([]string{"Int", "Int", "Bool", "L", "Int -> Int", "Int -> Bool", "Bool -> Int", "L -> Int", "Int -> L -> L", "(Int -> Int) -> Int", "L -> L"}[g.Intn(11)])
}

func (g progMaker) name() string { return []string{"a", "b", "c", "d", "e"}[g.Intn(5)] }

// known answers a name of this type; those that are bound again further in are not seen.
func (g progMaker) known(goal impl.Ty, env []seen) (string, bool) {
	fits := []string{}
	for i, x := range env {
		hidden := slices.ContainsFunc(env[i+1:], func(o seen) bool { return o.name == x.name })
		if !hidden && x.ty.K != 0 && told(x.ty) == told(goal) {
			fits = append(fits, x.name)
		}
	}
	if len(fits) == 0 {
		return "", false
	}
	return fits[g.Intn(len(fits))], true
}

// same answers a name of what makes the same of all.
func (g progMaker) same(env []seen) string {
	fits := []string{"i"}
	for i, x := range env {
		if !slices.ContainsFunc(env[i+1:], func(o seen) bool { return o.name == x.name }) && x.ty.K == 0 {
			fits = append(fits, x.name)
		}
	}
	return fits[g.Intn(len(fits))]
}

func (g progMaker) least(goal impl.Ty, env []seen) impl.Exp {
	if s, ok := g.known(goal, env); ok && g.Intn(4) > 0 {
		return vr(s)
	}
	switch {
	case goal.K == impl.TInt:
		return num(g.Intn(4))
	case goal.K == impl.TBool:
		return great([]string{"True", "False"}[g.Intn(2)])
	case goal.K == impl.TData:
		return great("N")
	case told(goal) == told(ty("Int -> L -> L")):
		return great("C")
	case told(goal.L[0]) == told(goal.L[1]) && g.Intn(3) > 0:
		return vr("i")
	}
	return vr("any")
}

func (g progMaker) exp(goal impl.Ty, env []seen, deep int) impl.Exp {
	if g.Intn(g.slips) == 0 {
		goal = g.ty()
	}
	env = slices.Clip(env)
	sub := func(t impl.Ty) impl.Exp { return g.exp(t, env, deep-1) }
	if deep <= 1 {
		return g.least(goal, env)
	}
	switch kind := g.Intn(14); {
	case kind < 2:
		return g.least(goal, env)
	case kind < 4:
		if goal.K == impl.TFun {
			s := g.name()
			return lam(s, g.exp(goal.L[1], append(env, seen{s, goal.L[0]}), deep-1))
		}
		return g.made(goal, sub)
	case kind < 6:
		from := g.ty()
		return app(sub(tyFun(from, goal)), sub(from))
	case kind < 8:
		return app(vr(g.same(env)), sub(goal))
	case kind == 8:
		return ifs(sub(tyBool()), sub(goal), sub(goal))
	case kind == 9:
		return g.caseOf(goal, env, deep)
	case kind == 10:
		l, within := g.decs(env, deep-2)
		return let(g.exp(goal, within, deep-1), l...)
	case kind == 11:
		// A lambda that is handed what makes the same of all is of one type there.
		s := g.name()
		return app(lam(s, g.exp(goal, append(env, seen{s, impl.Ty{}}), deep-2)), vr("i"))
	case kind == 12:
		return app(app(vr("k"), sub(goal)), sub(g.ty()))
	}
	return g.made(goal, sub)
}

func (g progMaker) made(goal impl.Ty, sub func(impl.Ty) impl.Exp) impl.Exp {
	i := tyInt()
	switch goal.K {
	case impl.TInt:
		return op([]string{"+", "-", "*"}[g.Intn(3)], sub(i), sub(i))
	case impl.TBool:
		return op([]string{"==", "<"}[g.Intn(2)], sub(i), sub(i))
	case impl.TData:
		return app(app(great("C"), sub(i)), sub(goal))
	}
	return sub(goal)
}

func (g progMaker) caseOf(goal impl.Ty, env []seen, deep int) impl.Exp {
	in := func(more ...seen) impl.Exp { return g.exp(goal, append(env, more...), deep-1) }
	list := tyData("L")
	switch g.Intn(4) {
	case 0:
		return caseOf(g.exp(tyBool(), env, deep-1), alt("True", in()), alt("", in(), "_"))
	case 1:
		return caseOf(g.exp(list, env, deep-1), alt("N", in()), alt("C", in(seen{"h", tyInt()}, seen{"l", list}), "h", "l"))
	case 2:
		s := g.name()
		return caseOf(vr("i"), alt("", in(seen{s, impl.Ty{}}), s))
	}
	t, s := g.ty(), g.name()
	return caseOf(g.exp(t, env, deep-1), alt("", in(seen{s, t}), s))
}

// decs answers what is seen behind them, too. Those that make the same of all do so by hand of a name that need not.
func (g progMaker) decs(env []seen, deep int) ([]impl.Dec, []seen) {
	l, within := []impl.Dec{}, slices.Clip(env)
	goals := []impl.Ty{}
	for _, s := range []string{"f", "g", "a"}[:1+g.Intn(3)] {
		goal := g.ty()
		if g.Intn(3) == 0 {
			goal = impl.Ty{}
		}
		goals = append(goals, goal)
		within = append(within, seen{s, goal})
		l = append(l, dec(s, num(0)))
	}
	for i, goal := range goals {
		l[i] = g.dec(l[i].Name, goal, within, deep)
	}
	return l, within
}

func (g progMaker) dec(name string, goal impl.Ty, env []seen, deep int) impl.Dec {
	env = slices.Clip(env)
	if goal.K == 0 {
		return dec(name, []impl.Exp{vr("x"), app(vr(g.same(env)), vr("x")), ifs(great("True"), vr("x"), app(vr(name), vr("x"))), app(app(vr("k"), vr("x")), g.exp(g.ty(), env, max(deep, 1)))}[g.Intn(4)], "x")
	}
	pars := []string{}
	for goal.K == impl.TFun && g.Intn(3) > 0 {
		s := "x" + strconv.Itoa(len(pars))
		env, pars, goal = append(env, seen{s, goal.L[0]}), append(pars, s), goal.L[1]
	}
	d := dec(name, num(0), pars...)
	if deep > 2 && g.Intn(4) == 0 {
		d.Where, env = g.decs(env, deep-1)
	}
	d.E = g.exp(goal, env, max(deep, 1))
	return d
}

const given = "data L = N | C Int L\nany = any\ni x = x\nk x y = x\n"

func (g progMaker) prog(t *testing.T) impl.Prog {
	p := progRead(t, given)
	l, env := g.decs([]seen{}, 4)
	p.Decs = append(p.Decs, l...)
	p.Decs = append(p.Decs, dec("main", g.exp(tyInt(), env, 5)))
	g.Shuffle(len(p.Decs), func(i, j int) { p.Decs[i], p.Decs[j] = p.Decs[j], p.Decs[i] })
	return p
}

// Types of many programs against those by hand; and P10: of what has types nothing comes to a call of what is no
// function, nor to anything else of a type that it is not asked for.
func TestTypesByHand(t *testing.T) {
	r := rand.New(rand.NewSource(101))
	typed, untyped, wrong := 0, 0, map[int]int{}
	for n := range 6000 {
		p := progMaker{r, []int{1000, 20, 8}[n%3]}.prog(t)
		if !impl.ScopeOk(p) {
			continue
		}
		has := checkTypesByHand(t, p)
		if has {
			typed++
		} else {
			untyped++
		}
		for _, d := range p.Decs {
			why := runByHand(p, d.Name, 2000)
			wrong[why]++
			if has && isWrong(why) {
				t.Errorf("%s\nhas types, but %s comes to %d", impl.ProgText(p), d.Name, why)
			}
		}
	}
	if typed < 1000 || untyped < 1000 || wrong[notAFunction] < 100 || wrong[0] < 1000 {
		t.Error("too few of one kind:", typed, untyped, wrong)
	}
}
