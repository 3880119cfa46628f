package tests

import (
	"math"
	"slices"
	"strings"
	"testing"

	"loop.example/g00471/impl"
)

func lexed(t *testing.T, s string) []impl.Tok {
	t.Helper()
	l, ok := impl.Lex(s)
	if !ok {
		t.Fatalf("Lex(%q) is refused", s)
	}
	return l
}

// wantLaid holds TokText of Lay of Lex of s against want.
func wantLaid(t *testing.T, s, want string) {
	t.Helper()
	l := lexed(t, s)
	m, ok := impl.Lay(l)
	if got := impl.TokText(m); !ok || got != want {
		t.Errorf("Lay of %q = %q, %v; want %q", s, got, ok, want)
		return
	}
	checkLaid(t, l, m)
}

func wantNotLaid(t *testing.T, l []impl.Tok) {
	t.Helper()
	if m, ok := impl.Lay(l); ok || len(m) != 0 {
		t.Errorf("Lay(%v) = %v, %v; want nothing and false", l, m, ok)
	}
}

// wantLaidToks holds Lay of a list made by hand against want.
func wantLaidToks(t *testing.T, l []impl.Tok, want ...impl.Tok) {
	t.Helper()
	if m, ok := impl.Lay(l); !ok || !slices.Equal(m, want) {
		t.Errorf("Lay(%v) = %v, %v; want %v, true", l, m, ok, want)
	}
}

func name(s string, line, col int) impl.Tok {
	return impl.Tok{K: impl.TkName, S: s, Line: line, Col: col}
}

func word(s string, line, col int) impl.Tok {
	return impl.Tok{K: impl.TkWord, S: s, Line: line, Col: col}
}

func mark(s string, line, col int) impl.Tok {
	return impl.Tok{K: impl.TkMark, S: s, Line: line, Col: col}
}

func putIn(s string) impl.Tok { return mark(s, 0, 0) }

func toks(l ...impl.Tok) []impl.Tok { return l }

func isMarkOf(x impl.Tok, s string) bool { return x.K == impl.TkMark && x.S == s }

// checkLaid: m is l with marks of Line 0 put in, and of these as many close as open, each behind its own (P2). It holds of what Lex tells.
func checkLaid(t *testing.T, l, m []impl.Tok) {
	t.Helper()
	rest := []impl.Tok{}
	opened, closed := 0, 0
	for _, x := range m {
		switch x {
		case putIn("{"):
			opened++
		case putIn("}"):
			closed++
		case putIn(";"):
			if opened == closed {
				t.Fatalf("%v: a `;` is put in outside of all blocks", m)
			}
		default:
			rest = append(rest, x)
		}
		if opened < closed {
			t.Fatalf("%v: a block is closed that was not opened", m)
		}
	}
	if opened != closed {
		t.Fatalf("%v: %d blocks are opened, %d closed", m, opened, closed)
	}
	if !slices.Equal(rest, l) {
		t.Fatalf("%v is not %v with marks put in", m, l)
	}
	if impl.Blocks(m) != opened || impl.Blocks(l) != 0 || len(m) > 900 {
		t.Fatalf("%v: Blocks %d, ahead of that %d, %d Toks", m, impl.Blocks(m), impl.Blocks(l), len(m))
	}
	checkNested(t, m)
}

// checkNested: what closes stands behind what opens it, and blocks, brackets, `let` and `in`, `if`, `then` and `else`, `case` and `of` do not cross.
func checkNested(t *testing.T, m []impl.Tok) {
	t.Helper()
	var open []string
	awaited := true
	closes := func(x impl.Tok, want string) {
		t.Helper()
		if len(open) == 0 || open[len(open)-1] != want {
			t.Fatalf("%v: %v closes %v", m, x, open)
		}
		open = open[:len(open)-1]
	}
	for _, x := range m {
		wasAwaited := awaited
		awaited = x.K == impl.TkWord && (x.S == "let" || x.S == "where" || x.S == "of")
		switch {
		case isMarkOf(x, "{"):
			if wasAwaited {
				open = append(open, bracePlace(x))
			}
		case isMarkOf(x, "}"):
			closes(x, bracePlace(x))
		case isMarkOf(x, "("):
			open = append(open, "(")
		case isMarkOf(x, ")"):
			closes(x, "(")
		case x.K == impl.TkWord:
			switch x.S {
			case "let", "if", "case":
				open = append(open, x.S)
			case "in":
				closes(x, "let")
			case "then":
				closes(x, "if")
				open = append(open, "then")
			case "else":
				closes(x, "then")
			case "of":
				closes(x, "case")
			}
		}
	}
	if len(open) > 0 {
		t.Fatalf("%v leaves %v open", m, open)
	}
}

func bracePlace(x impl.Tok) string {
	if x.Line == 0 {
		return "put in"
	}
	return "by hand"
}

func TestLayDefinitions(t *testing.T) {
	wantLaid(t, "a", "{ a }")
	wantLaid(t, "a = 1\n", "{ a = 1 }")
	wantLaid(t, "a = 1\nb = 2\nc = 3\n", "{ a = 1 ; b = 2 ; c = 3 }")
	wantLaid(t, "\n\n   a = 1\n\n   b = 2", "{ a = 1 ; b = 2 }")
	wantLaid(t, "-- one\na = 1 -- two\n-- three\nb = 2", "{ a = 1 ; b = 2 }")
	wantLaid(t, "a\n  =\n 1\n  + 2\nb = 2", "{ a = 1 + 2 ; b = 2 }")
	wantLaid(t, "data T = A | B Int\nmain = f\nf x = x", "{ data T = A | B Int ; main = f ; f x = x }")
	wantLaid(t, "a = 1 ; b = 2", "{ a = 1 ; b = 2 }")
	wantLaid(t, "a = 1 ;\nb = 2", "{ a = 1 ; ; b = 2 }")
}

func TestLayPlaces(t *testing.T) {
	wantLaidToks(t, lexed(t, "a = let x\n  in b\nc"),
		putIn("{"), name("a", 1, 1), mark("=", 1, 3), word("let", 1, 5),
		putIn("{"), name("x", 1, 9), putIn("}"),
		word("in", 2, 3), name("b", 2, 6),
		putIn(";"), name("c", 3, 1),
		putIn("}"), end(3, 2))
	wantLaidToks(t, lexed(t, "{ a }"), mark("{", 1, 1), name("a", 1, 3), mark("}", 1, 5), end(1, 6))
}

func TestLayBlocksByMargin(t *testing.T) {
	wantLaid(t, "a = let x = 1 in x", "{ a = let { x = 1 } in x }")
	wantLaid(t, "a = let\n  x = 1\n  y = 2\n in x", "{ a = let { x = 1 ; y = 2 } in x }")
	wantLaid(t, "a = let x = 1\n        y = 2\n    in x\nb = 3", "{ a = let { x = 1 ; y = 2 } in x ; b = 3 }")
	wantLaid(t, "a = b\n  where b = 1\n        c = 2\nd = 3", "{ a = b where { b = 1 ; c = 2 } ; d = 3 }")
	wantLaid(t, "a = b\n  where\n    b = 1\n    c = 2\nd = 3", "{ a = b where { b = 1 ; c = 2 } ; d = 3 }")
	wantLaid(t, "a = case b of A -> 1\n              B x -> 2\nd = 3", "{ a = case b of { A -> 1 ; B x -> 2 } ; d = 3 }")
	wantLaid(t, "a = case b of\n    A ->\n     1\n    _ -> 2", "{ a = case b of { A -> 1 ; _ -> 2 } }")
	wantLaid(t, "a = \\x -> case x of\n  y -> y", "{ a = \\ x -> case x of { y -> y } }")
}

func TestLayBlocksOneWithinAnother(t *testing.T) {
	wantLaid(t, "a = let x = let y = 1 in y in x", "{ a = let { x = let { y = 1 } in y } in x }")
	wantLaid(t, "a = case b of\n  A -> case c of\n    C -> 1\n    D -> 2\n  B -> 3\nd = 4",
		"{ a = case b of { A -> case c of { C -> 1 ; D -> 2 } ; B -> 3 } ; d = 4 }")
	wantLaid(t, "a = case b of\n  A -> case c of\n    C -> 1\nd = 4", "{ a = case b of { A -> case c of { C -> 1 } } ; d = 4 }")
	wantLaid(t, "a = b\n  where\n    b = c\n      where\n        c = let d = 1 in d\n    e = 2\nf = 3",
		"{ a = b where { b = c where { c = let { d = 1 } in d } ; e = 2 } ; f = 3 }")
	wantLaid(t, "a = let b = c\n          where c = 1\n        d = 2\n    in b", "{ a = let { b = c where { c = 1 } ; d = 2 } in b }")
	// Below both of the inner ones, and not at the outer one: no `;`.
	wantLaid(t, "a = case b of\n    A -> case c of\n       C -> 1\n  + 2\nd", "{ a = case b of { A -> case c of { C -> 1 } } + 2 ; d }")
	// The end closes all that is open by the margin.
	wantLaid(t, "a = case b of\n A -> case c of\n  C -> case d of\n   D -> 1", "{ a = case b of { A -> case c of { C -> case d of { D -> 1 } } } }")
}

func TestLayWhatClosesMargins(t *testing.T) {
	wantLaid(t, "a = (case b of A -> 1) + 2", "{ a = ( case b of { A -> 1 } ) + 2 }")
	wantLaid(t, "a = (case b of A -> case c of C -> 1) + 2", "{ a = ( case b of { A -> case c of { C -> 1 } } ) + 2 }")
	wantLaid(t, "a = if case b of A -> c then 1 else 2", "{ a = if case b of { A -> c } then 1 else 2 }")
	wantLaid(t, "a = if b then case b of A -> c else 2", "{ a = if b then case b of { A -> c } else 2 }")
	wantLaid(t, "a = let x = case b of A -> 1 in x", "{ a = let { x = case b of { A -> 1 } } in x }")
	wantLaid(t, "a = case case b of A -> c of C -> 1", "{ a = case case b of { A -> c } of { C -> 1 } }")
	wantLaid(t, "a = case let x = 1 in x of y -> 1", "{ a = case let { x = 1 } in x of { y -> 1 } }")
	wantLaid(t, "a = if if b then c else d then e else if f then g else h", "{ a = if if b then c else d then e else if f then g else h }")
	wantLaid(t, "a = ((b) (c))", "{ a = ( ( b ) ( c ) ) }")
	// On a line of their own, at the Col of the block: first the `;`, then what they close.
	wantLaid(t, "a = (\n  case b of\n    A -> 1\n  )\nc", "{ a = ( case b of { A -> 1 } ) ; c }")
	wantLaid(t, "a = let x = 1\n        in x", "{ a = let { x = 1 ; } in x }")
	wantLaid(t, "a = let\n   x = 1\n in x", "{ a = let { x = 1 } in x }")
	// At the Col of what is around the bracket: nothing, for the bracket is between.
	wantLaid(t, "a = (\nb\n)\nc", "{ a = ( b ) ; c }")
	wantLaid(t, "a = if\nb\nthen c\nelse d\ne", "{ a = if b then c else d ; e }")
}

func TestLayEmptyBlocks(t *testing.T) {
	wantLaid(t, "", "{ }")
	wantLaid(t, " -- none\n\n", "{ }")
	wantLaid(t, "a = b where", "{ a = b where { } }")
	wantLaid(t, "a = case b of\n", "{ a = case b of { } }")
	wantLaid(t, "a = case b of\n      -- aside\n", "{ a = case b of { } }")
	wantLaid(t, "a = b where\nc = 1", "{ a = b where { } ; c = 1 }")
	wantLaid(t, "  a = b where\n c", "{ a = b where { } } c")
	wantLaid(t, "a = case b of\nc = 1", "{ a = case b of { } ; c = 1 }")
	wantLaid(t, "a = case b of\n  A -> case c of\n  B -> 2", "{ a = case b of { A -> case c of { } ; B -> 2 } }")
	wantLaid(t, "a = case b of\n  A -> case c of\nd = 2", "{ a = case b of { A -> case c of { } } ; d = 2 }")
	wantLaid(t, "a = let\nin b", "{ a = let { } in b }")
	wantLaid(t, "a = let in b", "{ a = let { } in b }")
	wantLaid(t, "a = (case b of) c", "{ a = ( case b of { } ) c }")
	wantLaid(t, "where where where", "{ where { where { where { } } } }")
	wantLaid(t, "where\nwhere\nwhere", "{ where { } ; where { } ; where { } }")
	wantLaid(t, "where\n where\n  where", "{ where { where { where { } } } }")
	// The greatest number counts, not the top: x is open at 9, and the bracket is the top.
	wantLaid(t, "a = let x = (case b of\n        c) in x", "{ a = let { x = ( case b of { } c ) } in x }")
	wantLaid(t, "a = let x = (case b of\n         c) in x", "{ a = let { x = ( case b of { c } ) } in x }")
	// And not the eldest: 1 is, 9 is the greatest.
	wantLaid(t, "a = let x = case b of\n        c in x", "{ a = let { x = case b of { } ; c } in x }")
}

func TestLayByHand(t *testing.T) {
	wantLaid(t, "{}", "{ }")
	wantLaid(t, "{ a = 1 ; b = 2 }", "{ a = 1 ; b = 2 }")
	wantLaid(t, "{ a = 1\nb = 2\n  c }", "{ a = 1 b = 2 c }")
	wantLaid(t, "a = let { x = 1 ; y = 2 } in x", "{ a = let { x = 1 ; y = 2 } in x }")
	wantLaid(t, "a = b where { b = 1 }\nc = 2", "{ a = b where { b = 1 } ; c = 2 }")
	wantLaid(t, "a = case b of {}\nc = 2", "{ a = case b of { } ; c = 2 }")
	// A `{` that is awaited is taken wherever it stands, without a `;`.
	wantLaid(t, "a = case b of\n{ A -> 1 }\nc = 2", "{ a = case b of { A -> 1 } ; c = 2 }")
	wantLaid(t, "   a = case b of\n{\nA -> 1\n}\n   c = 2", "{ a = case b of { A -> 1 } ; c = 2 }")
	// By the margin within what is by hand.
	wantLaid(t, "{ a = let x = 1 in x }", "{ a = let { x = 1 } in x }")
	wantLaid(t, "{ a = case b of\n  A -> 1\n  B -> 2\n}", "{ a = case b of { A -> 1 ; B -> 2 } }")
	// A `}` by hand does not close what the margin opened, also not where it begins that itself.
	wantNotLaid(t, lexed(t, "{ a = case b of A -> 1 }"))
	wantNotLaid(t, lexed(t, "{ a = b where }"))
	wantNotLaid(t, lexed(t, "{ a = b where\n}"))
	// A `{` that is not awaited opens nothing.
	wantLaid(t, "a = {", "{ a = { }")
	wantLaid(t, "{{}", "{ { }")
	wantNotLaid(t, lexed(t, "a = { b }"))
	wantNotLaid(t, lexed(t, "{{}}"))
	// Behind what was closed by hand the stack is empty, and lines open nothing.
	wantLaid(t, "{ a } b\nc\n d", "{ a } b c d")
	wantLaid(t, "{} let x in y", "{ } let { x } in y")
	wantLaid(t, "{}\nlet\nx\ny\nin z", "{ } let { x ; y ; } in z")
}

func TestLayColOfBlock(t *testing.T) {
	head := toks(name("a", 1, 5), word("where", 1, 7), name("b", 1, 13))
	behind := func(x impl.Tok) []impl.Tok { return append(slices.Clone(head), x, end(3, 1)) }
	start := toks(putIn("{"), head[0], head[1], putIn("{"), head[2])
	for _, c := range []struct {
		col  int
		want []impl.Tok
	}{
		{14, toks(name("c", 2, 14), putIn("}"), putIn("}"))},
		{13, toks(putIn(";"), name("c", 2, 13), putIn("}"), putIn("}"))},
		{12, toks(putIn("}"), name("c", 2, 12), putIn("}"))},
		{6, toks(putIn("}"), name("c", 2, 6), putIn("}"))},
		{5, toks(putIn("}"), putIn(";"), name("c", 2, 5), putIn("}"))},
		{4, toks(putIn("}"), putIn("}"), name("c", 2, 4))},
	} {
		l := behind(name("c", 2, c.col))
		wantLaidToks(t, l, slices.Concat(start, c.want, toks(end(3, 1)))...)
		// On the line of the Tok ahead, or one above it, no Col counts.
		for _, line := range []int{1, 0, -1} {
			x := name("c", line, c.col)
			wantLaidToks(t, behind(x), slices.Concat(start, toks(x, putIn("}"), putIn("}"), end(3, 1)))...)
		}
	}
}

// The Tok ahead is the one of the list, not a mark that was put in.
func TestLayTokAhead(t *testing.T) {
	a, where := name("a", 1, 5), word("where", 1, 7)
	wantLaidToks(t, toks(a, where, name("b", 1, 2), end(1, 3)),
		putIn("{"), a, where, putIn("{"), putIn("}"), name("b", 1, 2), putIn("}"), end(1, 3))
	wantLaidToks(t, toks(a, where, name("b", 2, 5), end(2, 6)),
		putIn("{"), a, where, putIn("{"), putIn("}"), putIn(";"), name("b", 2, 5), putIn("}"), end(2, 6))
	// A line that goes back, and on again.
	wantLaidToks(t, toks(name("a", 5, 1), name("b", 3, 1), name("c", 4, 1), end(4, 2)),
		putIn("{"), name("a", 5, 1), name("b", 3, 1), putIn(";"), name("c", 4, 1), putIn("}"), end(4, 2))
	// The `{` by hand is the one ahead of what follows it.
	wantLaidToks(t, toks(word("where", 1, 1), mark("{", 2, 1), name("a", 2, 1), mark("}", 2, 1), end(2, 2)),
		putIn("{"), word("where", 1, 1), mark("{", 2, 1), name("a", 2, 1), mark("}", 2, 1), putIn("}"), end(2, 2))
	// The end on a line of its own puts in no `;`.
	wantLaidToks(t, toks(name("a", 1, 1), end(2, 1)), putIn("{"), name("a", 1, 1), putIn("}"), end(2, 1))
}

func TestLayGreatestBelowNought(t *testing.T) {
	open, closed := mark("{", 1, 1), mark("}", 1, 2)
	let, in := word("let", 1, 3), word("in", 2, 9)
	// The stack is -2 alone, then empty, then 0 alone: from Col 1 on a block is begun.
	wantLaidToks(t, toks(open, closed, let, name("x", 2, 1), in),
		open, closed, let, putIn("{"), name("x", 2, 1), putIn("}"), in)
	wantLaidToks(t, toks(open, closed, let, name("x", 2, 0), in),
		open, closed, let, putIn("{"), putIn("}"), name("x", 2, 0), in)
	where := word("where", 1, 3)
	wantLaidToks(t, toks(open, closed, where, name("x", 2, 0), end(2, 2)),
		open, closed, where, putIn("{"), putIn("}"), name("x", 2, 0), end(2, 2))
	wantLaidToks(t, toks(open, where, name("x", 1, 1), end(2, 2), closed),
		open, where, putIn("{"), name("x", 1, 1), putIn("}"), end(2, 2), closed)
	wantLaidToks(t, toks(open, where, name("x", 1, 0), end(2, 2), closed),
		open, where, putIn("{"), putIn("}"), name("x", 1, 0), end(2, 2), closed)
	// At first there is none.
	wantLaidToks(t, toks(name("x", 1, 0)), putIn("{"), putIn("}"), name("x", 1, 0))
	wantLaidToks(t, toks(name("x", 1, -1)), putIn("{"), putIn("}"), name("x", 1, -1))
}

// Where a Line or a Col is none of a text, the steps are taken as they are told.
func TestLayPlacesOfNoText(t *testing.T) {
	wantLaidToks(t, toks(name("a", 0, 1), name("b", 0, 1), name("c", -4, 1), name("d", -3, 1), end(0, 0)),
		putIn("{"), name("a", 0, 1), name("b", 0, 1), name("c", -4, 1), putIn(";"), name("d", -3, 1), putIn("}"), end(0, 0))
	wantLaidToks(t, toks(mark("{", 0, 0), name("a", 1, 0), mark("}", 1, 5)),
		mark("{", 0, 0), putIn(";"), name("a", 1, 0), mark("}", 1, 5))
	wantLaidToks(t, toks(mark("{", 1, 1), name("a", 2, -1), end(2, 1)),
		mark("{", 1, 1), putIn("}"), name("a", 2, -1), end(2, 1))
	wantLaidToks(t, toks(mark("{", 1, 1), mark("(", 1, 2), name("a", 2, -1), mark(")", 2, 2), mark("}", 2, 3)),
		mark("{", 1, 1), mark("(", 1, 2), putIn(";"), name("a", 2, -1), mark(")", 2, 2), mark("}", 2, 3))
	wantLaidToks(t, toks(mark("{", 1, 1), mark("(", 1, 2), name("a", 2, -9)),
		mark("{", 1, 1), mark("(", 1, 2), putIn("}"), putIn("}"), name("a", 2, -9))
	wantLaidToks(t, toks(name("a", math.MaxInt, math.MaxInt), end(math.MinInt, math.MinInt)),
		putIn("{"), name("a", math.MaxInt, math.MaxInt), putIn("}"), end(math.MinInt, math.MinInt))
	wantLaidToks(t, toks(name("a", math.MinInt, math.MinInt), name("b", math.MaxInt, math.MinInt), end(0, 0)),
		putIn("{"), putIn("}"), name("a", math.MinInt, math.MinInt), name("b", math.MaxInt, math.MinInt), end(0, 0))
}

// What only looks like a word, a mark or the end is put out, and that is all.
func TestLayOfNoKind(t *testing.T) {
	texts := append([]string{"", "?", "a"}, append(slices.Clone(allWords), allMarks...)...)
	for _, s := range texts {
		for _, k := range []int{0, -1, 7, math.MaxInt, math.MinInt, impl.TkName, impl.TkGreat, impl.TkNum} {
			x := impl.Tok{K: k, S: s, Line: 1, Col: 1}
			wantLaidToks(t, toks(x, x, end(1, 9)), putIn("{"), x, x, putIn("}"), end(1, 9))
		}
	}
	for _, s := range allWords {
		x := mark(s, 1, 1)
		wantLaidToks(t, toks(x, x, end(1, 9)), putIn("{"), x, x, putIn("}"), end(1, 9))
	}
	for _, s := range allMarks {
		x := word(s, 1, 1)
		wantLaidToks(t, toks(x, x, end(1, 9)), putIn("{"), x, x, putIn("}"), end(1, 9))
	}
	for _, s := range texts {
		x := impl.Tok{K: impl.TkEnd, S: s, Line: 1, Col: 5}
		wantLaidToks(t, toks(name("a", 1, 1), x), putIn("{"), name("a", 1, 1), putIn("}"), x)
	}
}

func TestLayWrongTops(t *testing.T) {
	for _, s := range []string{
		"a = 1)", ")", "a = let x = 1)", "a = if 1)", "a = if b then 1)", "a = case b)", "{ a )", "(let a )", "{} )",
		"a = in 1", "in", "(a in b)", "a = if in", "a = if b then c in d", "a = case in", "{ in }", "a = let x in y in z", "{} in",
		"a = then 1", "then", "(then)", "let then", "a = if b then c then d", "a = case then", "{ then }", "{} then",
		"a = else 1", "else", "(else)", "let else", "a = if 1 else 2", "a = if b then c else d else e", "a = case else", "{ else }", "{} else",
		"a = of 1", "of", "(of)", "let of", "a = if of", "a = if b then of", "{ of }", "a = case b of c of d", "{} of",
		"a = 1 }", "}", "{ (}", "{ let x }", "{ if }", "{ if a then }", "{ case }", "{ } }", "{ a } b }", "a\n}",
		"(case b of A -> 1 then 2",
	} {
		wantNotLaid(t, lexed(t, s))
	}
}

func TestLayLeftOpen(t *testing.T) {
	for _, s := range []string{
		"a = (1", "a = ((1)", "a = let x = 1", "a = let", "a = if b", "a = if b then c", "a = case b", "{ a = 1", "{", "a = let { x = 1",
		"a = (\nb = 2", "a = let x = 1\nb = 2", "let (", "case if",
	} {
		wantNotLaid(t, lexed(t, s))
	}
	// Without the end what is open by the margin stays open.
	wantNotLaid(t, toks(name("a", 1, 1)))
	wantNotLaid(t, toks(name("a", 1, 1), word("where", 1, 3), end(1, 9), name("b", 1, 10), mark("(", 1, 11)))
	for _, s := range []string{"a = 1\nb = 2", "a = case b of\n  A -> 1", "a = let x = 1 in x", "{ a } let x in (", "a where"} {
		l := lexed(t, s)
		wantNotLaid(t, l[:len(l)-1])
	}
}

func TestLayWithoutEnd(t *testing.T) {
	for _, l := range [][]impl.Tok{nil, {}} {
		if m, ok := impl.Lay(l); !ok || len(m) != 0 {
			t.Errorf("Lay of nothing = %v, %v; want nothing and true", m, ok)
		}
	}
	wantLaidToks(t, toks(mark("{", 1, 1), name("a", 1, 2), mark("}", 1, 3)), mark("{", 1, 1), name("a", 1, 2), mark("}", 1, 3))
	wantLaidToks(t, toks(name("a", 2, 2), name("b", 3, 1)), putIn("{"), name("a", 2, 2), putIn("}"), name("b", 3, 1))
	// What is awaited when the list ends is not put in.
	wantLaidToks(t, toks(mark("{", 1, 1), mark("}", 1, 2), word("where", 1, 3)), mark("{", 1, 1), mark("}", 1, 2), word("where", 1, 3))
}

func TestLayEndAmongOthers(t *testing.T) {
	wantLaidToks(t, toks(end(1, 1), end(1, 1)), putIn("{"), putIn("}"), end(1, 1), end(1, 1))
	wantLaidToks(t, toks(name("a", 1, 1), end(1, 2), name("b", 2, 1)), putIn("{"), name("a", 1, 1), putIn("}"), end(1, 2), name("b", 2, 1))
	wantLaidToks(t, toks(word("where", 1, 1), end(1, 2), name("b", 2, 1), end(2, 2)),
		putIn("{"), word("where", 1, 1), putIn("{"), putIn("}"), putIn("}"), end(1, 2), name("b", 2, 1), end(2, 2))
}

func TestLayManyToks(t *testing.T) {
	names := func(n, line int) []impl.Tok {
		l := []impl.Tok{}
		for i := range n {
			l = append(l, name("a", line, i+1))
		}
		return l
	}
	for _, n := range []int{896, 897, 898, 899, 900, 5000, 100000} {
		l := append(names(n, 1), end(1, n+1))
		if m, ok := impl.Lay(l); n <= 897 && (!ok || len(m) != n+3) {
			t.Errorf("%d names: %d Toks, %v", n, len(m), ok)
		}
		if n > 897 {
			wantNotLaid(t, l)
		}
	}
	for _, n := range []int{898, 899} {
		l := append(append(toks(mark("{", 1, 1)), names(n, 1)...), mark("}", 1, 1))
		if m, ok := impl.Lay(l); n == 898 && (!ok || len(m) != 900) {
			t.Errorf("%d names by hand: %d Toks, %v", n, len(m), ok)
		}
		if n > 898 {
			wantNotLaid(t, l)
		}
	}
	// What is put in counts, also what the end puts in.
	lines := "{ where" + strings.Repeat(" { } ; where", 223)
	source := strings.Repeat("where\n", 224)
	wantLaid(t, source, lines+" { } }")
	wantLaid(t, source+" a b", lines+" { a b } }")
	wantNotLaid(t, lexed(t, source+" a b c"))
	deep := func(n int) []impl.Tok {
		l := []impl.Tok{}
		for i := range n {
			l = append(l, word("where", 1, i+1))
		}
		return l
	}
	// 299 of them, each in a block of its own, and an empty one behind: 3 times 299, 2, and the end.
	if m, ok := impl.Lay(append(deep(299), end(1, 300))); !ok || len(m) != 900 || impl.Blocks(m) != 300 {
		t.Errorf("299 blocks: %d Toks, %v", len(m), ok)
	}
	wantNotLaid(t, append(deep(299), name("a", 1, 300), end(1, 301)))
	wantNotLaid(t, append(deep(300), end(1, 301)))
}

func TestBlocks(t *testing.T) {
	for _, c := range []struct {
		l    []impl.Tok
		want int
	}{
		{nil, 0},
		{toks(), 0},
		{toks(putIn("{")), 1},
		{toks(putIn("{"), putIn("}"), putIn(";"), putIn("{")), 2},
		{toks(mark("{", 0, 7)), 1},
		{toks(mark("{", 1, 0), mark("{", -1, 0), mark("{", math.MinInt, 0)), 0},
		{toks(name("{", 0, 0), word("{", 0, 0), impl.Tok{S: "{"}, impl.Tok{K: impl.TkEnd, S: "{"}), 0},
		{toks(putIn("("), putIn("{{"), putIn("{ "), putIn("")), 0},
	} {
		if got := impl.Blocks(c.l); got != c.want {
			t.Errorf("Blocks(%v) = %d; want %d", c.l, got, c.want)
		}
	}
	for s, want := range map[string]int{"": 1, "a": 1, "{}": 0, "a = let x = 1 in x": 2, "a = let { x = 1 } in x": 1, "{ a = let x = 1 in x }": 1, "where where where": 4} {
		m, ok := impl.Lay(lexed(t, s))
		if got := impl.Blocks(m); !ok || got != want {
			t.Errorf("Blocks of %q = %d, %v; want %d", s, got, ok, want)
		}
	}
	roomy := toks(putIn("{"), putIn("{"))
	if got := impl.Blocks(roomy[:1]); got != 1 {
		t.Errorf("Blocks read behind the length: %d", got)
	}
}

// P2 over all texts of a few pieces, and over all short lists of Toks by hand.
func TestAsManyBlocksAreClosedAsAreOpened(t *testing.T) {
	pieces := []string{"a ", "{ ", "} ", "( ", ") ", "let ", "in ", "where ", "if ", "then ", "else ", "case ", "of ", "\n", "\n ", "\n    "}
	texts := []string{""}
	laid := 0
	for range 5 {
		var longer []string
		for _, s := range texts {
			for _, x := range pieces {
				longer = append(longer, s+x)
			}
		}
		texts = longer
		for _, s := range texts {
			l := lexed(t, s)
			m, ok := impl.Lay(l)
			if !ok && len(m) != 0 {
				t.Fatalf("Lay of %q: %v beside false", s, m)
			}
			if ok {
				laid++
				checkLaid(t, l, m)
			}
		}
	}
	if laid < 10000 {
		t.Errorf("only %d texts are laid", laid)
	}
}

func TestLayOfAnyShortList(t *testing.T) {
	var kinds []impl.Tok
	for _, x := range toks(name("a", 0, 0), word("let", 0, 0), word("in", 0, 0), word("where", 0, 0), mark("(", 0, 0), mark(")", 0, 0), mark("{", 0, 0), mark("}", 0, 0), end(0, 0)) {
		for _, line := range []int{1, 2} {
			for _, col := range []int{1, 2} {
				kinds = append(kinds, impl.Tok{K: x.K, S: x.S, Line: line, Col: col})
			}
		}
	}
	lists := [][]impl.Tok{nil}
	for range 3 {
		var longer [][]impl.Tok
		for _, l := range lists {
			for _, x := range kinds {
				longer = append(longer, append(slices.Clone(l), x))
			}
		}
		lists = longer
		for _, l := range lists {
			if m, ok := impl.Lay(l); ok {
				checkLaid(t, l, m)
			} else if len(m) != 0 {
				t.Fatalf("Lay(%v): %v beside false", l, m)
			}
		}
	}
}

func TestLayPrograms(t *testing.T) {
	for _, s := range []string{
		"main = 0\n",
		"data List = Nil | Cons Int List\nmain = sum (Cons 1 (Cons 20 Nil))\nsum l = case l of\n  Nil -> 0\n  Cons x r -> x + sum r -- the rest\n",
		"f x y = if x == y then \\z -> z * 2 else g\n  where\n    g _ = let { a = 1; b = 999999 } in a - b\nmain = f 1 2\n",
	} {
		l := lexed(t, s)
		m, ok := impl.Lay(l)
		if !ok {
			t.Errorf("Lay of %q is refused", s)
			continue
		}
		checkLaid(t, l, m)
		// What is laid holds all its blocks by hand, and stays so when it is laid again.
		byHand := impl.TokText(m)
		wantLaid(t, byHand, byHand)
	}
}

func TestLayIsNewMemory(t *testing.T) {
	for _, s := range []string{"a = let x = 1 in x\nb = 2", "{ a }", "a = 1)", ""} {
		l := lexed(t, s)
		room := append(slices.Clone(l), name("behind", 1, 1), mark("(", 1, 1))
		kept := slices.Clone(room)
		first, ok := impl.Lay(room[:len(l)])
		again, _ := impl.Lay(room[:len(l)])
		if !slices.Equal(kept, room) {
			t.Errorf("Lay of %q wrote into its list: %v", s, room)
		}
		if !slices.Equal(first, again) {
			t.Errorf("Lay of %q twice: %v and %v", s, first, again)
		}
		if !ok {
			continue
		}
		for i := range first {
			first[i] = name("changed", 9, 9)
		}
		_ = append(first[:0], toks(name("more", 9, 9), name("more", 9, 9))...)
		if !slices.Equal(kept, room) {
			t.Errorf("Lay of %q shares its answer with its list", s)
		}
		for i := range room {
			room[i] = name("other", 8, 8)
		}
		if third, _ := impl.Lay(kept[:len(l)]); !slices.Equal(third, again) {
			t.Errorf("Lay of %q shares its answer: %v and %v", s, third, again)
		}
	}
}
