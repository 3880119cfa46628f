package tests

import (
	"math/rand"
	"reflect"
	"slices"
	"strconv"
	"strings"
	"testing"

	"loop.example/g00471/impl"
)

// calling answers an Exp in which these are called one with the next.
func calling(names ...string) impl.Exp {
	e := num(1)
	for _, s := range names {
		e = app(e, vr(s))
	}
	return e
}

// linked reads Decs, with blanks between, each its Name and behind a colon those that it asks for: "f:g,h g: h:f".
func linked(s string) []impl.Dec {
	l := []impl.Dec{}
	for _, one := range strings.Fields(s) {
		name, asked, _ := strings.Cut(one, ":")
		l = append(l, dec(name, calling(strings.FieldsFunc(asked, func(r rune) bool { return r == ',' })...)))
	}
	return l
}

func decsOf(t *testing.T, s string) []impl.Dec {
	t.Helper()
	p, ok := impl.ParseProg(s)
	if !ok {
		t.Fatalf("%q is not read", s)
	}
	return p.Decs
}

// wantNeeds is handed a naming for each name.
func wantNeeds(t *testing.T, what string, l []impl.Dec, all ...naming) {
	t.Helper()
	for _, c := range all {
		wantNames(t, what+": Needs "+c.text, impl.Needs(l, c.text), strings.Fields(c.names)...)
	}
}

// wantReaches is handed all names that from reaches; it reaches none else, of these or of what is no Dec.
func wantReaches(t *testing.T, what string, l []impl.Dec, from string, reached string) {
	t.Helper()
	others := []string{"none", "", "_", "A"}
	for _, d := range l {
		others = append(others, d.Name)
	}
	for _, to := range others {
		if want := slices.Contains(strings.Fields(reached), to); impl.Reaches(l, from, to) != want {
			t.Errorf("%s: Reaches(%q, %q) = %v", what, from, to, !want)
		}
	}
}

func groupsText(l [][]string) string {
	texts := []string{}
	for _, g := range l {
		texts = append(texts, strings.Join(g, " "))
	}
	return strings.Join(texts, " | ")
}

// wantGroups is handed the groups with ` | ` between, their Names with blanks between.
func wantGroups(t *testing.T, what string, l []impl.Dec, want string) {
	t.Helper()
	if got := groupsText(impl.Groups(l)); got != want {
		t.Errorf("%s: Groups = %q; want %q", what, got, want)
	}
}

func TestNeeds(t *testing.T) {
	const text = "main = f 1 + k\nf x = g x\ng x = f (h x) + main\nh x = h x + k\nk = 1"
	wantNeeds(t, text, decsOf(t, text),
		naming{"main", "f k"}, naming{"f", "g"}, naming{"g", "f h main"}, naming{"h", "h k"}, naming{"k", ""},
		naming{"x", ""}, naming{"none", ""}, naming{"", ""}, naming{"A", ""},
	)
	for _, c := range []struct{ text, needs string }{
		// None, one, several, and one that is asked for more than once.
		{"f = 1", ""}, {"f = A", ""}, {"f = a", "a"}, {"f = b a", "a b"}, {"f = a b a b a", "a b"}, {"f = if c then b else a", "a b c"}, {"f = b * a", "a b"},
		{"f = 1 where { g = a }", "a"}, {"f = a where { g = b }", "a b"}, {"f = 1 where { g = 1 where { h = a } }", "a"},
		// What is free, but no Dec.
		{"f = z", ""}, {"f = z a y", "a"}, {"f x = z x where { g = y b }", "b"},
		// What Pars, a Where, a Lam, a Let or an Alt bind.
		{"f a = a", ""}, {"f a = b a", "b"}, {"f x a _ c = a b c x", "b"}, {"f a = 1 where { g = a b }", "b"},
		{"f = a where { a = 1 }", ""}, {"f = a b where { a = b c }", "b c"}, {"f = b where { g a = a ; h = a }", "a b"}, {"f = 1 where { a = a }", ""}, {"f = 1 where { g = 1 where { a = 1 } ; h = a }", "a"},
		{`f = \a -> a`, ""}, {`f = \a -> a b`, "b"}, {`f = (\a -> a) a`, "a"},
		{"f = let a = 1 in a", ""}, {"f = let a = b in a c", "b c"}, {"f = (let a = 1 in a) a", "a"}, {"f = let a b = b in b", "b"},
		{"f = case 1 of { A a -> a }", ""}, {"f = case a of { A a -> a }", "a"}, {"f = case 1 of { A a -> b ; B -> a }", "a b"}, {"f = case 1 of { a -> a ; _ -> c }", "c"},
		// What needs itself, alone or with others; what is bound in it by its own Name.
		{"f = f", "f"}, {"f x = f x", "f"}, {"f x = f (a x) c", "a c f"}, {"f = 1 where { g = f }", "f"}, {"f = f (let f = 1 in f)", "f"},
		{"f f = f", ""}, {"f f = f a", "a"}, {"f = f where { f = 1 }", ""}, {"f = 1 where { f = f a }", "a"}, {`f = \f -> f`, ""}, {"f = let f = f in f", ""}, {"f = case 1 of { f -> f }", ""},
	} {
		l := decs(decOf(t, c.text), dec("b", num(1)), dec("a", num(1)), dec("c", vr("f")))
		wantNeeds(t, c.text, l, naming{"f", c.needs}, naming{"a", ""}, naming{"b", ""}, naming{"c", "f"})
		slices.Reverse(l)
		wantNeeds(t, c.text+", last", l, naming{"f", c.needs}, naming{"a", ""}, naming{"b", ""}, naming{"c", "f"})
	}
}

// What stands in any part is needed, unless it is bound there.
func TestNeedsInEachPart(t *testing.T) {
	for _, d := range downs {
		for _, outer := range downs {
			what := d.what + " in " + outer.what
			l := decs(dec("zz", num(1)), dec("f", outer.wrap(d.wrap(vr("zz")))), dec("g", outer.wrap(d.wrap(vr("g")))), dec("h", outer.wrap(d.wrap(lam("f", vr("f"))))))
			wantNeeds(t, what, l, naming{"zz", ""}, naming{"f", "zz"}, naming{"g", "g"}, naming{"h", ""})
			wantReaches(t, what, l, "f", "zz")
			wantReaches(t, what, l, "g", "g")
			wantReaches(t, what, l, "h", "")
			wantGroups(t, what, l, "zz | f | g | h")
		}
	}
}

// Byte by byte, a beginning ahead of what goes on, no two alike, whatever the order of the list.
func TestNeedsAreAscending(t *testing.T) {
	want := []string{"a", "a0", "a1", "aB", "aa", "aaa", "ab", "b", "bA", "m", "z", "zZ"}
	r := rand.New(rand.NewSource(8))
	for range 50 {
		asked := []string{"none"}
		l := []impl.Dec{}
		for _, at := range append(r.Perm(len(want)), r.Perm(len(want))...) {
			asked = append(asked, want[at])
		}
		for _, at := range r.Perm(len(want)) {
			l = append(l, dec(want[at], calling(asked...)))
		}
		for _, s := range want {
			wantNames(t, s, impl.Needs(l, s), want...)
		}
	}
}

func TestReaches(t *testing.T) {
	l := linked("a:b b:c c:d d:")
	wantReaches(t, "a chain", l, "a", "b c d")
	wantReaches(t, "a chain", l, "b", "c d")
	wantReaches(t, "a chain", l, "c", "d")
	wantReaches(t, "a chain", l, "d", "")
	slices.Reverse(l)
	wantReaches(t, "a chain backward", l, "a", "b c d")
	wantReaches(t, "a chain backward", l, "c", "d")
	wantReaches(t, "a chain backward", l, "d", "")

	l = linked("a:b,c b:d c:d d: e:a")
	wantReaches(t, "two ways", l, "a", "b c d")
	wantReaches(t, "two ways", l, "b", "d")
	wantReaches(t, "two ways", l, "e", "a b c d")

	l = linked("a:b b:a c:c,a d:c e:f,d f:g g:e")
	wantReaches(t, "rings", l, "a", "a b")
	wantReaches(t, "rings", l, "b", "a b")
	wantReaches(t, "rings", l, "c", "a b c")
	wantReaches(t, "rings", l, "d", "a b c")
	for _, s := range []string{"e", "f", "g"} {
		wantReaches(t, "rings", l, s, "a b c d e f g")
	}
}

// A name reaches itself where it needs itself, or where it comes back by others; else it does not.
func TestReachesOfANameToItself(t *testing.T) {
	for _, c := range []struct {
		text, from, reached string
	}{
		{"f = f", "f", "f"}, {"f x = f x", "f", "f"}, {"f = f + g\ng = 1", "f", "f g"}, {"f = f + g\ng = 1", "g", ""},
		{"f = g\ng = f", "f", "f g"}, {"f = g\ng = h\nh = f", "h", "f g h"}, {"f = g\ng = g", "f", "g"}, {"f = g\ng = f g", "g", "f g"},
		{"f = 1", "f", ""}, {"f = g\ng = 1", "f", "g"}, {"f = g\ng = h\nh = g", "f", "g h"}, {"f = z", "f", ""},
		// What is bound by the same name is not it.
		{"f f = f", "f", ""}, {`f = \f -> f`, "f", ""}, {"f = f where { f = 1 }", "f", ""}, {"f = let f = f in f", "f", ""}, {"f = g\ng f = f", "f", "g"}, {"f = g\ng = case 1 of { f -> f }", "f", "g"},
	} {
		wantReaches(t, c.text, decsOf(t, c.text), c.from, c.reached)
	}
}

// What is none of the Decs reaches nothing, and nothing reaches it, though it is asked for.
func TestReachesOfWhatIsNoDec(t *testing.T) {
	l := linked("f:g,z g:z,y")
	for _, s := range []string{"z", "y", "none", "", "_", "A"} {
		wantReaches(t, "from none", l, s, "")
		if impl.Reaches(l, "f", s) || impl.Reaches(l, "g", s) || impl.Reaches(l, s, s) {
			t.Errorf("%q is reached", s)
		}
		wantNeeds(t, "none", l, naming{s, ""})
	}
	wantReaches(t, "from one", l, "f", "g")
	// A name that is bound within one is no Dec either.
	l = decsOf(t, "f x = g where { g = h ; h = f }\nk = f")
	wantReaches(t, "a Where", l, "f", "f")
	wantReaches(t, "a Where", l, "g", "")
	wantReaches(t, "a Where", l, "h", "")
	wantReaches(t, "a Where", l, "k", "f")
}

func TestNoDecsAtAll(t *testing.T) {
	for _, l := range [][]impl.Dec{nil, {}, numbered(3)[:0]} {
		wantNeeds(t, "no Decs", l, naming{"f", ""}, naming{"", ""})
		wantReaches(t, "no Decs", l, "f", "")
		if impl.Reaches(l, "", "") || impl.Reaches(l, "f", "f") {
			t.Error("no Decs: Reaches")
		}
		if g := impl.Groups(l); len(g) != 0 {
			t.Errorf("no Decs: Groups = %q", g)
		}
	}
}

func TestGroupsOfDecs(t *testing.T) {
	for _, c := range []struct{ decs, groups string }{
		{"f:", "f"}, {"f:f", "f"}, {"f:z", "f"},
		// Those that need none stay in order.
		{"b: a:", "b | a"}, {"c: a: b:", "c | a | b"}, {"b:z a:y c:z", "b | a | c"}, {"b:b a:a", "b | a"},
		// A chain, forward and backward.
		{"a:b b:", "b | a"}, {"b: a:b", "b | a"}, {"a:b b:c c:d d:", "d | c | b | a"}, {"d: c:d b:c a:b", "d | c | b | a"},
		// Two that both need a third, and one that needs both.
		{"a:b,c b:d c:d d:", "d | b | c | a"}, {"a:c,b c:d b:d d:", "d | c | b | a"}, {"d: c:d b:d a:b,c", "d | c | b | a"}, {"a:b,c d: b:d c:d", "d | b | c | a"},
		// Two and three that need each other.
		{"a:b b:a", "a b"}, {"b:a a:b", "b a"}, {"a:b b:c c:a", "a b c"}, {"c:a a:b b:c", "c a b"}, {"a:c c:b b:a", "a c b"}, {"a:b b:a,c c:b", "a b c"}, {"a:a,b b:b,a", "a b"},
		// Two rings, one of which needs the other.
		{"a:b b:a,c c:d d:c", "c d | a b"}, {"c:d d:c a:b b:a,c", "c d | a b"}, {"c:a a:d,c d:b b:d", "d b | c a"}, {"a:b c:d b:a d:c", "a b | c d"}, {"a:b c:d,a b:a d:c", "a b | c d"}, {"a:b,d c:d b:a d:c", "c d | a b"},
		// A ring that needs one, and is needed by one.
		{"main:f f:g g:f,h h:h,k k:", "k | h | f g | main"}, {"a:b b:a,c c: d:a", "c | a b | d"},
		// One that needs itself and others.
		{"f:f,g g:", "g | f"}, {"f:f,g g:g", "g | f"}, {"f:f,g g:f", "f g"},
		// A ring within which there are others.
		{"a:b b:c c:b,d d:a", "a b c d"}, {"a:b b:c c:b,d d:c", "b c d | a"},
	} {
		wantGroups(t, c.decs, linked(c.decs), c.groups)
	}
}

// Names that are bound are no need, so that nothing holds those together that do not need each other.
func TestGroupsOfBoundNames(t *testing.T) {
	for _, c := range []struct{ text, groups string }{
		{"f g = g\ng = f", "f | g"}, {"f = g where { g = 1 }\ng = f", "f | g"}, {`f = \g -> g` + "\ng = f", "f | g"}, {"f = let g = 1 in g\ng = f", "f | g"}, {"f = case 1 of { A g -> g }\ng = f", "f | g"},
		{"f = g\ng f = f", "g | f"}, {"f x = g x\ng x = f x", "f g"}, {"f = 1 where { h = g }\ng = f", "f g"}, {"f = (\\g -> g) g\ng = f", "f g"},
		{"f x = h x\n  where\n    h y = k y x\nk a b = a\nmain = f 1 + k 1 2", "k | f | main"},
	} {
		wantGroups(t, c.text, decsOf(t, c.text), c.groups)
	}
}

// Within a group the Names are in order of l, whoever of them is needed first.
func TestOrderWithinAGroup(t *testing.T) {
	names := []string{"a", "b", "c", "d", "e"}
	r := rand.New(rand.NewSource(81))
	for range 60 {
		ring, list := r.Perm(len(names)), r.Perm(len(names))
		next := make([]string, len(names))
		for i, at := range ring {
			next[at] = names[ring[(i+1)%len(ring)]]
		}
		l, want := decs(dec("k", num(1))), []string{}
		for _, at := range list {
			l, want = append(l, dec(names[at], calling("k", next[at]))), append(want, names[at])
		}
		l = append(l, dec("main", vr("c")))
		wantGroups(t, "a ring", l, "k | "+strings.Join(want, " ")+" | main")
		slices.Reverse(l)
		slices.Reverse(want)
		wantGroups(t, "a ring backward", l, "k | "+strings.Join(want, " ")+" | main")
	}
}

// Always next is the group whose first Dec is the first of l of those that could be next: it may have become so just now,
// and it is the first Dec of a group that counts, not its last one.
func TestOrderOfGroups(t *testing.T) {
	for _, c := range []struct{ decs, groups string }{
		{"a:c b: c: d:", "b | c | a | d"}, {"a:b b: c: d:", "b | a | c | d"}, {"a:d b: c: d:", "b | c | d | a"},
		{"a:d b:c c: d: e:", "c | b | d | a | e"}, {"a:c b:d c: d: e:", "c | a | d | b | e"}, {"a:e b:a c: d: e:", "c | d | e | a | b"},
		// Rings whose Decs stand between each other.
		{"a:d b: c: d:a", "a d | b | c"}, {"a:d b:e c: d:a e:b", "a d | b e | c"}, {"a:d,f b: c: d:a e: f:", "b | c | e | f | a d"}, {"a: b:e,f c: d:a e:b f:", "a | c | d | f | b e"},
		{"a:c b:c,e c: d: e:b", "c | a | b e | d"}, {"a:b b:c,d c: d:b e:", "c | b d | a | e"},
		// One that waits for several waits for the last of them.
		{"a:b,c,d b: c: d: e:", "b | c | d | a | e"}, {"a:e,c b: c: d: e: f:", "b | c | d | e | a | f"}, {"a:b,c b:d,e c:e d: e:", "d | e | b | c | a"},
	} {
		wantGroups(t, c.decs, linked(c.decs), c.groups)
	}
	// As many as a program may have, each with one that it needs at the other end.
	wantGroups(t, "twelve", linked("a:l b:k c:j d:i e:h f:g g: h: i: j: k: l:"), "g | f | h | e | i | d | j | c | k | b | l | a")
}

// needsByHand tells of each Name, that of its first Dec, what it needs.
func needsByHand(l []impl.Dec) (names []string, needs map[string]map[string]int) {
	needs = map[string]map[string]int{}
	for _, d := range l {
		if needs[d.Name] == nil {
			needs[d.Name] = map[string]int{}
			names = append(names, d.Name)
			freeOfDecByHand(d, nil, needs[d.Name])
		}
	}
	for _, own := range needs {
		for s := range own {
			if needs[s] == nil {
				delete(own, s)
			}
		}
	}
	return names, needs
}

// reachesByHand adds to what each needs what that needs, until there is no more to be added.
func reachesByHand(names []string, needs map[string]map[string]int) map[string]map[string]int {
	reached := map[string]map[string]int{}
	for _, s := range names {
		reached[s] = map[string]int{}
		for to := range needs[s] {
			reached[s][to] = 1
		}
	}
	for _, by := range names {
		for _, from := range names {
			for _, to := range names {
				if reached[from][by]*reached[by][to] == 1 {
					reached[from][to] = 1
				}
			}
		}
	}
	return reached
}

// groupsByHand goes through the list anew for each group.
func groupsByHand(names []string, needs, reached map[string]map[string]int) [][]string {
	groups, came := [][]string{}, map[string]int{}
	for len(came) < len(names) {
		for _, s := range names {
			if came[s] > 0 {
				continue
			}
			group, lacks := []string{}, 0
			for _, o := range names {
				if o == s || reached[s][o]*reached[o][s] == 1 {
					group = append(group, o)
				}
			}
			for _, o := range group {
				for to := range needs[o] {
					if came[to] == 0 && !slices.Contains(group, to) {
						lacks++
					}
				}
			}
			if lacks == 0 {
				groups = append(groups, group)
				for _, o := range group {
					came[o]++
				}
				break
			}
		}
	}
	return groups
}

// checkByHand holds the groups, and if all is asked for the others, too, against what is told by hand.
func checkByHand(t *testing.T, l []impl.Dec, all bool) {
	t.Helper()
	names, needs := needsByHand(l)
	reached := reachesByHand(names, needs)
	wantGroups(t, told(l), l, groupsText(groupsByHand(names, needs, reached)))
	if !all {
		return
	}
	for _, s := range names {
		wantNames(t, told(l)+": Needs "+s, impl.Needs(l, s), inOrder("none", needs[s])...)
		for _, to := range names {
			if impl.Reaches(l, s, to) != (reached[s][to] == 1) {
				t.Errorf("%s: Reaches(%q, %q)", told(l), s, to)
			}
		}
	}
}

// Each way in which three, and many in which four, can need each other and themselves.
func TestAllWaysToNeedEachOther(t *testing.T) {
	names := []string{"c", "a", "d", "b"}
	for _, n := range []int{1, 2, 3, 4} {
		step := 1
		if n == 4 {
			step = 5
		}
		for which := 0; which < 1<<(n*n); which += step {
			l := []impl.Dec{}
			for i := range n {
				asked := []string{}
				for j := range n {
					if which>>(i*n+j)&1 == 1 {
						asked = append(asked, names[j])
					}
				}
				l = append(l, dec(names[i], calling(asked...)))
			}
			checkByHand(t, l, n < 4)
			if t.Failed() {
				return
			}
		}
	}
}

// checkGroups: each Name stands in one group, those of a group reach each other (or it is one alone), nobody of another
// group does, and each group is behind all others that one of it needs.
func checkGroups(t *testing.T, l []impl.Dec) (rings, behind int) {
	t.Helper()
	groups := impl.Groups(l)
	at := map[string]int{}
	for i, g := range groups {
		if len(g) == 0 {
			t.Fatalf("%s: an empty group", told(l))
		}
		for _, s := range g {
			if _, twice := at[s]; twice {
				t.Fatalf("%s: %q stands twice", told(l), s)
			}
			at[s] = i
		}
	}
	names := map[string]int{}
	for _, d := range l {
		names[d.Name]++
		if _, there := at[d.Name]; !there {
			t.Fatalf("%s: %q stands nowhere", told(l), d.Name)
		}
	}
	if len(names) != len(at) {
		t.Fatalf("%s: names that are none of it in %q", told(l), groups)
	}
	for s := range names {
		for _, to := range impl.Needs(l, s) {
			if at[to] > at[s] {
				t.Fatalf("%s: %q needs %q, which is behind it in %q", told(l), s, to, groups)
			}
			if at[to] < at[s] {
				behind++
			}
		}
		for o := range names {
			together := impl.Reaches(l, s, o) && impl.Reaches(l, o, s)
			if o != s && together != (at[s] == at[o]) {
				t.Fatalf("%s: %q and %q in %q", told(l), s, o, groups)
			}
		}
		if len(groups[at[s]]) > 1 {
			rings++
		}
	}
	return rings, behind
}

// linkedAtRandom answers Decs of these names, each of which asks for others: the more often, the more of them.
func linkedAtRandom(r *rand.Rand, names []string, often int) []impl.Dec {
	l := []impl.Dec{}
	for _, at := range r.Perm(len(names)) {
		asked := []string{"free"}
		for _, s := range names {
			if r.Intn(10*len(names)) < often*10/4 {
				asked = append(asked, s)
			}
		}
		r.Shuffle(len(asked), func(i, j int) { asked[i], asked[j] = asked[j], asked[i] })
		d := dec(names[at], downs[r.Intn(len(downs))].wrap(calling(asked...)))
		if r.Intn(3) == 0 {
			d.Pars = []string{"free", names[r.Intn(len(names))]}
		}
		l = append(l, d)
	}
	return l
}

// P8.
func TestEachDefinitionIsBehindAllThatItNeeds(t *testing.T) {
	r := rand.New(rand.NewSource(82))
	names := []string{"n", "k", "l", "m", "f", "g", "h", "i", "aa", "ab", "main", "z9"}
	rings, behind := 0, 0
	count := func(l []impl.Dec) {
		more, further := checkGroups(t, l)
		rings, behind = rings+more, behind+further
		checkByHand(t, l, false)
	}
	for i := range 700 {
		count(linkedAtRandom(r, names[:1+i%len(names)], 1+i%9))
		count(rightDecs(r, 1+i%6))
		if t.Failed() {
			return
		}
	}
	if rings < 500 || behind < 1000 {
		t.Error("too few to tell:", rings, behind)
	}
}

// Lists of any Decs, right or not, in which Names are alike: of two of one Name the first counts.
func TestNeedsOfManyWrongLists(t *testing.T) {
	r := rand.New(rand.NewSource(83))
	alike := 0
	for i := range 2000 {
		l := anyExp(r, 3).Decs
		for range i % 5 {
			l = append(l, anyExp(r, 2).Decs...)
		}
		for _, s := range []string{"a", "b", "c"} {
			if r.Intn(2) == 0 {
				l = append(l, dec(s, anyExp(r, 2)))
			}
		}
		names, _ := needsByHand(l)
		if len(names) < len(l) {
			alike++
		}
		checkByHand(t, l, true)
		checkGroups(t, l)
		if t.Failed() {
			return
		}
	}
	if alike < 500 {
		t.Error("too few to tell:", alike)
	}
}

func TestTwoDecsOfOneName(t *testing.T) {
	l := linked("f:g f:h g: h:")
	wantNeeds(t, "the first counts", l, naming{"f", "g"})
	wantReaches(t, "the first counts", l, "f", "g")
	wantGroups(t, "the first counts", l, "g | f | h")
	l = linked("f: f:f,g g:f")
	wantNeeds(t, "the second needs itself", l, naming{"f", ""}, naming{"g", "f"})
	wantReaches(t, "the second needs itself", l, "f", "")
	wantReaches(t, "the second needs itself", l, "g", "f")
	wantGroups(t, "the second needs itself", l, "f | g")
	l = linked("f:f,g f: g:f")
	wantReaches(t, "the first needs itself", l, "f", "f g")
	wantGroups(t, "the first needs itself", l, "f g")
	l = linked("f: g:f f:g f:f")
	wantGroups(t, "three of them", l, "f | g")
	// A Name that needs it needs it once, and comes behind its first Dec's group, wherever the others are.
	l = linked("a:f f: b: f:b f:a")
	wantNeeds(t, "who needs it", l, naming{"a", "f"}, naming{"f", ""})
	wantGroups(t, "who needs it", l, "f | a | b")
	wantGroups(t, "all alike", linked("f: f: f:"), "f")
	wantGroups(t, "all alike, of themselves", linked("f:f f:f"), "f")
}

func TestNeedsOfWrongNames(t *testing.T) {
	// What stands in the place of a Name is taken as it stands there.
	for _, s := range []string{"", "_", "A", "in", "toolongto", "+", "\xff"} {
		l := decs(dec("f", vr(s)), dec(s, calling("g", s)), dec("g", num(1)))
		wantNames(t, s, impl.Needs(l, "f"), s)
		wantNames(t, s, impl.Needs(l, s), slices.Sorted(slices.Values([]string{"g", s}))...)
		if !impl.Reaches(l, "f", s) || !impl.Reaches(l, s, s) || !impl.Reaches(l, "f", "g") || impl.Reaches(l, s, "f") {
			t.Errorf("%q: Reaches", s)
		}
		wantGroups(t, s, l, "g | "+s+" | f")
	}
	// A great name is no need of a Dec of this Name.
	l := decs(dec("f", great("A")), dec("A", num(1)))
	wantNeeds(t, "a great name", l, naming{"f", ""})
	wantGroups(t, "a great name", l, "f | A")
	l = make([]impl.Dec, 3)
	wantNames(t, "zero Decs", impl.Needs(l, ""))
	if g := impl.Groups(l); len(g) != 1 || !slices.Equal(g[0], []string{""}) {
		t.Errorf("zero Decs: %q", g)
	}
}

// Lists far longer than a program's: chains, a ring, one that needs all, and all that need one.
func TestNeedsOfFarTooManyDecs(t *testing.T) {
	const many = 60000
	name := func(i int) string { return "n" + strconv.Itoa(i) }
	chain, ring, all := []impl.Dec{}, []impl.Dec{}, []impl.Dec{}
	names := []string{}
	for i := range many {
		chain, ring = append(chain, dec(name(i), vr(name(i+1)))), append(ring, dec(name(i), vr(name((i+1)%many))))
		all, names = append(all, dec(name(i), vr("last"))), append(names, name(i))
	}
	backward := slices.Clone(names)
	slices.Reverse(backward)
	wantGroups(t, "a chain", chain, strings.Join(backward, " | "))
	wantGroups(t, "a ring", ring, strings.Join(names, " "))
	wantGroups(t, "all need one", append(slices.Clone(all), dec("last", num(1))), "last | "+strings.Join(names, " | "))
	top := dec("top", impl.Exp{K: impl.EApp, L: slices.Repeat([]impl.Exp{calling("n7"), vr("n5")}, many)})
	for i := range many {
		top.E.L[i] = vr(name(i))
	}
	wantGroups(t, "one needs all", append(decs(top), all...), strings.Join(names, " | ")+" | top")
	wantNames(t, "one needs all", impl.Needs(append(decs(top), all...), "top"), slices.Sorted(slices.Values(names))...)
	last := name(many - 1)
	if !impl.Reaches(chain, "n0", last) || impl.Reaches(chain, last, "n0") || !impl.Reaches(ring, last, "n7") || !impl.Reaches(ring, last, last) || impl.Reaches(chain, last, last) {
		t.Error("Reaches")
	}
	slices.Reverse(chain)
	wantGroups(t, "a chain backward", chain, strings.Join(backward, " | "))
	// As many ways as there can be between this many.
	each := []impl.Dec{}
	for i := range 300 {
		each = append(each, dec(name(i), calling(names[:300]...)))
	}
	wantGroups(t, "all need all", each, strings.Join(names[:300], " "))
	for i := range each {
		each[i].E = calling(names[i+1 : 300]...)
	}
	wantGroups(t, "each needs all behind it", each, strings.Join(backward[many-300:], " | "))
}

// Bodies far too deep, lists that many Decs share, and Decs that stand in their own Where.
func TestNeedsOfWhatHasNoEnd(t *testing.T) {
	for _, d := range downs {
		e := calling("zz", "f")
		for range 3000 {
			e = d.wrap(e)
		}
		l := decs(dec("f", e), dec("g", e, "f"), dec("zz", num(1)))
		wantNeeds(t, d.what, l, naming{"f", "f zz"}, naming{"g", "zz"})
		wantGroups(t, d.what, l, "zz | f | g")
	}
	shared := []impl.Exp{vr("f"), vr("g"), vr("h")}
	call := impl.Exp{K: impl.EApp, L: shared}
	l := decs(dec("f", call, "f"), dec("g", call, "f", "g"), dec("h", call, "f", "g", "h"))
	wantNeeds(t, "a list of many", l, naming{"f", "g h"}, naming{"g", "h"}, naming{"h", ""})
	wantGroups(t, "a list of many", l, "h | g | f")

	ring := make([]impl.Dec, 3)
	ring[0] = impl.Dec{Name: "a", E: calling("a", "b", "c"), Where: ring}
	ring[1] = impl.Dec{Name: "b", E: calling("a"), Where: ring[2:]}
	ring[2] = impl.Dec{Name: "c", E: impl.Exp{K: impl.ELet, L: []impl.Exp{vr("b")}, Decs: ring[:1]}}
	wantNeeds(t, "a Where that goes round", ring, naming{"a", ""}, naming{"b", "a b"}, naming{"c", "b"})
	wantReaches(t, "a Where that goes round", ring, "c", "a b")
	wantGroups(t, "a Where that goes round", ring, "a | b | c")
	calls := make([]impl.Exp, 2)
	calls[0], calls[1] = impl.Exp{K: impl.EApp, L: calls}, vr("b")
	l = decs(dec("a", calls[0]), dec("b", calls[0], "b"))
	wantNeeds(t, "calls that go round", l, naming{"a", "b"}, naming{"b", ""})
	wantGroups(t, "calls that go round", l, "b | a")
}

// askGroups answers what the calls say of each name of l.
func askGroups(l []impl.Dec) [][][]string {
	answers := [][][]string{impl.Groups(l)}
	for _, d := range l {
		reached := []string{}
		for _, o := range l {
			if impl.Reaches(l, d.Name, o.Name) {
				reached = append(reached, o.Name)
			}
		}
		answers = append(answers, [][]string{impl.Needs(l, d.Name), reached})
	}
	return append(answers, [][]string{impl.Needs(l, "behind"), impl.Needs(l, "none")})
}

func TestGroupsAreNewMemory(t *testing.T) {
	r := rand.New(rand.NewSource(84))
	for i, base := range [][]impl.Dec{
		wholeProg().Decs, linked("main:f f:g g:f,h h:h,k k:"), linked("f:g f:behind g:f,g"), linkedAtRandom(r, []string{"c", "a", "b", "e", "d"}, 5), numbered(4), {},
	} {
		l := roomy(reflect.ValueOf(base)).Interface().([]impl.Dec)
		ahead := toldWithRoom(reflect.ValueOf(l))
		want := told(askGroups(base))
		for range 3 {
			got := askGroups(l)
			if told(got) != want {
				t.Errorf("list %d: %q", i, got)
			}
			sharesNothing(t, "groups", reflect.ValueOf(got))
			for _, answer := range got {
				for _, names := range answer[:cap(answer)] {
					names = names[:cap(names)]
					for j := range names {
						names[j] = "changed"
					}
				}
			}
		}
		if toldWithRoom(reflect.ValueOf(l)) != ahead {
			t.Errorf("list %d was written into", i)
		}
	}
}

// What was answered of one list is nothing to another, and a list that is changed is another.
func TestNothingIsKeptOfGroups(t *testing.T) {
	one, other := linked("f:g g:f h:f"), linked("f:h g: h:g")
	for range 3 {
		wantGroups(t, "the one", one, "f g | h")
		wantReaches(t, "the one", one, "h", "f g")
		wantGroups(t, "the other", other, "g | h | f")
		wantReaches(t, "the other", other, "h", "g")
	}
	one[1].E = num(1)
	wantNeeds(t, "changed", one, naming{"g", ""}, naming{"f", "g"})
	wantReaches(t, "changed", one, "h", "f g")
	wantGroups(t, "changed", one, "g | f | h")
	// What lies behind the length is none of it.
	wantNeeds(t, "behind the length", other[:2], naming{"f", ""}, naming{"h", ""})
	wantReaches(t, "behind the length", other[:2], "f", "")
	wantGroups(t, "behind the length", other[:2], "f | g")
}
