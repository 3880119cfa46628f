package tests

import (
	"slices"
	"strings"
	"testing"

	"loop.example/g00471/impl"
)

// wantToks holds Lex of s against want, the end's Tok among them.
func wantToks(t *testing.T, s string, want ...impl.Tok) {
	t.Helper()
	l, ok := impl.Lex(s)
	if !ok || !slices.Equal(l, want) {
		t.Errorf("Lex(%q) = %v, %v; want %v, true", s, l, ok, want)
	}
}

func wantRefused(t *testing.T, s string) {
	t.Helper()
	if l, ok := impl.Lex(s); ok || len(l) != 0 {
		t.Errorf("Lex(%q) = %v, %v; want nothing and false", s, l, ok)
	}
}

// wantParts holds the kinds and texts alone against want, each told as kind and text; the end is left out of want.
func wantParts(t *testing.T, s string, want ...part) {
	t.Helper()
	l, ok := impl.Lex(s)
	if got := partsOf(l); !ok || !slices.Equal(got, append(want, part{impl.TkEnd, ""})) {
		t.Errorf("Lex(%q) = %v, %v; want %v and the end", s, got, ok, want)
	}
}

type part struct {
	K int
	S string
}

func partsOf(l []impl.Tok) []part {
	out := []part{}
	for _, x := range l {
		out = append(out, part{x.K, x.S})
	}
	return out
}

func end(line, col int) impl.Tok { return impl.Tok{K: impl.TkEnd, Line: line, Col: col} }

var allWords = []string{"let", "in", "where", "case", "of", "if", "then", "else", "data"}

var allMarks = []string{"->", "==", "(", ")", "{", "}", ";", "=", `\`, "|", "+", "-", "*", "<", "_"}

func TestLimitsOfSigns(t *testing.T) {
	if impl.MaxText != 1500 || impl.MaxToks != 400 {
		t.Error(impl.MaxText, impl.MaxToks)
	}
	kinds := []int{impl.TkName, impl.TkGreat, impl.TkNum, impl.TkWord, impl.TkMark, impl.TkEnd}
	if !slices.Equal(kinds, []int{1, 2, 3, 4, 5, 6}) {
		t.Error(kinds)
	}
}

func TestNameOk(t *testing.T) {
	for _, s := range []string{"a", "z", "aZ", "a0", "m9Z", "main", "eightlet", "a1234567", "lets", "ofa", "dataX", "iF", "case1"} {
		if !impl.NameOk(s) {
			t.Errorf("NameOk(%q) = false", s)
		}
	}
	for _, s := range []string{"", "A", "Main", "0", "0a", "_", "_a", "a_", "a b", " a", "a ", "a\n", "ninesigns", "a12345678", "a'", "a-b", "é", "aé", "a\xff", "\xff", "a\x00", "`", "{", "a@", "a[", "a/", "a:"} {
		if impl.NameOk(s) {
			t.Errorf("NameOk(%q) = true", s)
		}
	}
	for _, s := range allWords {
		if impl.NameOk(s) {
			t.Errorf("NameOk(%q) = true of a word", s)
		}
	}
}

func TestGreatOk(t *testing.T) {
	for _, s := range []string{"A", "Z", "Az", "A0", "True", "Let", "LET", "EIGHTLET", "A1234567"} {
		if !impl.GreatOk(s) {
			t.Errorf("GreatOk(%q) = false", s)
		}
	}
	for _, s := range append([]string{"", "a", "true", "0", "0A", "_", "A_", "A b", " A", "A ", "A\n", "NINESIGNS", "A12345678", "É", "AÉ", "A\xff", "\xff", "@", "[", "A`", "A{"}, allWords...) {
		if impl.GreatOk(s) {
			t.Errorf("GreatOk(%q) = true", s)
		}
	}
}

func TestLexNothing(t *testing.T) {
	wantToks(t, "", end(1, 1))
	wantToks(t, "   ", end(1, 4))
	wantToks(t, "\n", end(2, 1))
	wantToks(t, " \n\n  ", end(3, 3))
	wantToks(t, "--", end(1, 3))
	wantToks(t, "--\n", end(2, 1))
}

func TestLexPlaces(t *testing.T) {
	wantToks(t, "f x = x\n  where\n\n    A 10 -> y\n",
		impl.Tok{K: impl.TkName, S: "f", Line: 1, Col: 1},
		impl.Tok{K: impl.TkName, S: "x", Line: 1, Col: 3},
		impl.Tok{K: impl.TkMark, S: "=", Line: 1, Col: 5},
		impl.Tok{K: impl.TkName, S: "x", Line: 1, Col: 7},
		impl.Tok{K: impl.TkWord, S: "where", Line: 2, Col: 3},
		impl.Tok{K: impl.TkGreat, S: "A", Line: 4, Col: 5},
		impl.Tok{K: impl.TkNum, S: "10", Line: 4, Col: 7},
		impl.Tok{K: impl.TkMark, S: "->", Line: 4, Col: 10},
		impl.Tok{K: impl.TkName, S: "y", Line: 4, Col: 13},
		end(5, 1))
	wantToks(t, "(a)\n b",
		impl.Tok{K: impl.TkMark, S: "(", Line: 1, Col: 1},
		impl.Tok{K: impl.TkName, S: "a", Line: 1, Col: 2},
		impl.Tok{K: impl.TkMark, S: ")", Line: 1, Col: 3},
		impl.Tok{K: impl.TkName, S: "b", Line: 2, Col: 2},
		end(2, 3))
}

func TestLexWordsAndNames(t *testing.T) {
	for _, s := range allWords {
		wantParts(t, s, part{impl.TkWord, s})
		wantParts(t, s+"X", part{impl.TkName, s + "X"})
		wantParts(t, s+"1", part{impl.TkName, s + "1"})
		great := strings.ToUpper(s[:1]) + s[1:]
		wantParts(t, great, part{impl.TkGreat, great})
	}
	wantParts(t, "eightlet EIGHTLET", part{impl.TkName, "eightlet"}, part{impl.TkGreat, "EIGHTLET"})
	wantParts(t, "a1b Cd2", part{impl.TkName, "a1b"}, part{impl.TkGreat, "Cd2"})
	wantParts(t, "a_b", part{impl.TkName, "a"}, part{impl.TkMark, "_"}, part{impl.TkName, "b"})
	for _, s := range []string{"ninesigns", "NINESIGNS", "a12345678", "wherewhere", "a ninesigns", "é", "a é", "naïve"} {
		wantRefused(t, s)
	}
}

func TestLexNumbers(t *testing.T) {
	for _, s := range []string{"0", "1", "9", "10", "100", "999999", "100000"} {
		wantParts(t, s, part{impl.TkNum, s})
	}
	for _, s := range []string{"00", "01", "000", "007", "000001", "0000001", "1000000", "1234567", "f 01", "01a", "- 00"} {
		wantRefused(t, s)
	}
	wantParts(t, "0 0", part{impl.TkNum, "0"}, part{impl.TkNum, "0"})
	wantParts(t, "9a", part{impl.TkNum, "9"}, part{impl.TkName, "a"})
	wantParts(t, "0A1", part{impl.TkNum, "0"}, part{impl.TkGreat, "A1"})
	wantParts(t, "123456eightlet", part{impl.TkNum, "123456"}, part{impl.TkName, "eightlet"})
	wantParts(t, "a01", part{impl.TkName, "a01"})
	wantParts(t, "-1", part{impl.TkMark, "-"}, part{impl.TkNum, "1"})
}

func TestLexMarks(t *testing.T) {
	for _, s := range allMarks {
		wantParts(t, s, part{impl.TkMark, s})
		wantParts(t, "a"+s+"b", part{impl.TkName, "a"}, part{impl.TkMark, s}, part{impl.TkName, "b"})
	}
	marks := func(l ...string) []part {
		out := []part{}
		for _, s := range l {
			out = append(out, part{impl.TkMark, s})
		}
		return out
	}
	for s, want := range map[string][]part{
		"- -":   marks("-", "-"),
		"- ->":  marks("-", "->"),
		"->-":   marks("->", "-"),
		"->->":  marks("->", "->"),
		"===":   marks("==", "="),
		"====":  marks("==", "=="),
		"= =":   marks("=", "="),
		"=->":   marks("=", "->"),
		"-=":    marks("-", "="),
		"<=":    marks("<", "="),
		"<-":    marks("<", "-"),
		"(){};": marks("(", ")", "{", "}", ";"),
		"__":    marks("_", "_"),
		"->--":  marks("->"),
		"---":   marks(),
		"-->":   marks(),
		"--\n-": marks("-"),
	} {
		wantParts(t, s, want...)
	}
	for _, s := range []string{">", "- >", "=>", ">=", "a > b"} {
		wantRefused(t, s)
	}
}

func TestLexAside(t *testing.T) {
	wantToks(t, "a--b\nc",
		impl.Tok{K: impl.TkName, S: "a", Line: 1, Col: 1},
		impl.Tok{K: impl.TkName, S: "c", Line: 2, Col: 1},
		end(2, 2))
	wantToks(t, "a -- $ 007 ninesigns\n", impl.Tok{K: impl.TkName, S: "a", Line: 1, Col: 1}, end(2, 1))
	wantToks(t, "-- a -- b\n--c\n  d",
		impl.Tok{K: impl.TkName, S: "d", Line: 3, Col: 3},
		end(3, 4))
	wantToks(t, "a -- b", impl.Tok{K: impl.TkName, S: "a", Line: 1, Col: 1}, end(1, 7))
	wantToks(t, "--\t\r\x00\xff\xc3\n1", impl.Tok{K: impl.TkNum, S: "1", Line: 2, Col: 1}, end(2, 2))
	// Places are counted in bytes: of é there are two.
	wantToks(t, "--é", end(1, 5))
	wantToks(t, "--é\na", impl.Tok{K: impl.TkName, S: "a", Line: 2, Col: 1}, end(2, 2))
}

func TestLexEveryByte(t *testing.T) {
	const good = "abcdefghijklmnopqrstuvwxyzABCDEFGHIJKLMNOPQRSTUVWXYZ0123456789(){};=\\|+-*<_ \n"
	for c := range 256 {
		s := string([]byte{byte(c)})
		if strings.Contains(good, s) {
			if _, ok := impl.Lex(s); !ok {
				t.Errorf("Lex(%q) is refused", s)
			}
			continue
		}
		for _, around := range []string{s, "a" + s, s + "a", "a " + s + " b", "1" + s, "\n" + s, "--x\n" + s} {
			wantRefused(t, around)
		}
	}
	for _, s := range []string{"\xff", "a\xffb", "\xc3", "\xc3\xa9", "\xed\xa0\x80", "\xf4\x90\x80\x80", "\xef\xbf\xbd", "ａ", "１"} {
		wantRefused(t, s)
	}
}

func TestLexLongTexts(t *testing.T) {
	wantToks(t, strings.Repeat(" ", impl.MaxText), end(1, impl.MaxText+1))
	wantRefused(t, strings.Repeat(" ", impl.MaxText+1))
	wantToks(t, strings.Repeat(" ", impl.MaxText-1)+"a", impl.Tok{K: impl.TkName, S: "a", Line: 1, Col: impl.MaxText}, end(1, impl.MaxText+1))
	wantRefused(t, strings.Repeat(" ", impl.MaxText)+"a")
	wantToks(t, strings.Repeat("\n", impl.MaxText), end(impl.MaxText+1, 1))
	wantToks(t, "--"+strings.Repeat("x", impl.MaxText-2), end(1, impl.MaxText+1))
	wantRefused(t, "--"+strings.Repeat("x", impl.MaxText-1))
	// The limit is of bytes, not of runes.
	wantRefused(t, "--"+strings.Repeat("é", impl.MaxText/2))
	wantRefused(t, strings.Repeat("a", impl.MaxText))
	wantRefused(t, strings.Repeat("1", impl.MaxText))
}

func TestLexManyToks(t *testing.T) {
	for _, s := range []string{"a ", "A\n", "0 ", "of ", "(", "->", "=="} {
		most := strings.Repeat(s, impl.MaxToks-1)
		l, ok := impl.Lex(most)
		if !ok || len(l) != impl.MaxToks || l[impl.MaxToks-1].K != impl.TkEnd {
			t.Errorf("%d times %q: %d Toks, %v", impl.MaxToks-1, s, len(l), ok)
		}
		wantRefused(t, most+s)
	}
}

func TestTokText(t *testing.T) {
	tok := func(k int, s string) impl.Tok { return impl.Tok{K: k, S: s} }
	a, b, last := tok(impl.TkName, "a"), tok(impl.TkMark, "->"), tok(impl.TkEnd, "")
	for _, c := range []struct {
		l    []impl.Tok
		want string
	}{
		{nil, ""},
		{[]impl.Tok{}, ""},
		{[]impl.Tok{last}, ""},
		{[]impl.Tok{a}, "a"},
		{[]impl.Tok{a, last}, "a"},
		{[]impl.Tok{a, b, a, last}, "a -> a"},
		{[]impl.Tok{a, last, b}, "a ->"},
		{[]impl.Tok{last, a, last, last, b, last}, "a ->"},
		{[]impl.Tok{tok(impl.TkEnd, "x"), a}, "a"},
		{[]impl.Tok{tok(impl.TkName, ""), a}, " a"},
		{[]impl.Tok{a, tok(impl.TkName, ""), a}, "a  a"},
		{[]impl.Tok{tok(0, "?"), tok(-7, "\xff"), tok(99, "a b")}, "? \xff a b"},
	} {
		kept := slices.Clone(c.l)
		if got := impl.TokText(c.l); got != c.want {
			t.Errorf("TokText(%#v) = %q; want %q", c.l, got, c.want)
		}
		if !slices.Equal(kept, c.l) {
			t.Errorf("TokText changed %#v to %#v", kept, c.l)
		}
	}
	roomy := []impl.Tok{a, b, a}
	if got := impl.TokText(roomy[:1]); got != "a" {
		t.Errorf("TokText read behind the length: %q", got)
	}
}

// checkPlaces: each Tok of s stands where it says, in order, and nothing but blanks, line ends and asides stands between.
func checkPlaces(t *testing.T, s string, l []impl.Tok) {
	t.Helper()
	lines := strings.Split(s, "\n")
	line, col := 1, 1
	for i, x := range l {
		if (x.K == impl.TkEnd) != (i == len(l)-1) {
			t.Fatalf("Lex(%q): the end stands at %d of %d", s, i, len(l))
		}
		if x.Line < line || x.Line > len(lines) || x.Line == line && x.Col < col {
			t.Fatalf("Lex(%q): %v is behind the Tok ahead", s, x)
		}
		for ; line < x.Line; line, col = line+1, 1 {
			checkBetween(t, s, lines[line-1][col-1:], true)
		}
		checkBetween(t, s, lines[line-1][col-1:x.Col-1], x.K == impl.TkEnd)
		if !strings.HasPrefix(lines[line-1][x.Col-1:], x.S) {
			t.Fatalf("Lex(%q): %v does not stand there", s, x)
		}
		col = x.Col + len(x.S)
	}
	if line != len(lines) || col != len(lines[line-1])+1 {
		t.Fatalf("Lex(%q): the end is told at %d, %d", s, line, col)
	}
}

func checkBetween(t *testing.T, s, between string, toLineEnd bool) {
	t.Helper()
	rest := strings.TrimLeft(between, " ")
	if rest != "" && !(toLineEnd && strings.HasPrefix(rest, "--")) {
		t.Fatalf("Lex(%q) passed over %q", s, between)
	}
}

// checkBack: the signs of s come back of their own text, all together and each alone (P1).
func checkBack(t *testing.T, s string, l []impl.Tok) {
	t.Helper()
	text := impl.TokText(l)
	if len(text) > impl.MaxText {
		return
	}
	again, ok := impl.Lex(text)
	if !ok || !slices.Equal(partsOf(again), partsOf(l)) {
		t.Fatalf("Lex(TokText(Lex(%q))) = %v, %v; want %v", s, partsOf(again), ok, partsOf(l))
	}
	if impl.TokText(again) != text {
		t.Fatalf("TokText of %q again: %q", text, impl.TokText(again))
	}
	for _, x := range l[:len(l)-1] {
		alone, ok := impl.Lex(x.S)
		if !ok || !slices.Equal(alone, []impl.Tok{{K: x.K, S: x.S, Line: 1, Col: 1}, end(1, len(x.S)+1)}) {
			t.Fatalf("Lex(%q) = %v, %v; it is a Tok of %q", x.S, alone, ok, s)
		}
	}
}

func checkText(t *testing.T, s string) {
	t.Helper()
	l, ok := impl.Lex(s)
	if !ok {
		if len(l) != 0 {
			t.Fatalf("Lex(%q): %v beside false", s, l)
		}
		return
	}
	checkPlaces(t, s, l)
	checkBack(t, s, l)
}

func TestSignsComeBackOfShortTexts(t *testing.T) {
	signs := []string{"a", "B", "0", "7", "-", ">", "=", "(", "_", " ", "\n", "let"}
	texts := []string{""}
	for range 4 {
		var longer []string
		for _, s := range texts {
			checkText(t, s)
			for _, x := range signs {
				longer = append(longer, s+x)
			}
		}
		texts = longer
	}
	for _, s := range texts {
		checkText(t, s)
	}
}

func TestSignsComeBackOfAnyTwoBytes(t *testing.T) {
	for a := range 256 {
		for b := range 256 {
			checkText(t, string([]byte{byte(a), byte(b)}))
		}
	}
}

func TestSignsComeBackOfPrograms(t *testing.T) {
	for _, s := range []string{
		"main = 0\n",
		"data List = Nil | Cons Int List\nmain = sum (Cons 1 (Cons 20 Nil))\nsum l = case l of\n  Nil -> 0\n  Cons x r -> x + sum r -- the rest\n",
		"f x y = if x == y then \\z -> z * 2 else g\n  where\n    g _ = let { a = 1; b = 999999 } in a - b\n",
		strings.Repeat("eightlet ", 166),
		strings.Repeat("a=", 199),
		strings.Repeat("--x\n\n a", 60),
		strings.Repeat("abcdefg", 1) + strings.Repeat("(eightle", 180),
	} {
		if _, ok := impl.Lex(s); !ok {
			t.Errorf("Lex(%q) is refused", s)
		}
		checkText(t, s)
	}
}

// What is kept from call to call is nothing: what is refused leaves nothing behind, and no two answers share a list.
func TestLexKeepsNothing(t *testing.T) {
	first, _ := impl.Lex("a b")
	wantRefused(t, "a $")
	second, _ := impl.Lex("a b")
	if !slices.Equal(first, second) {
		t.Error(first, second)
	}
	first[0].S = "changed"
	if second[0].S != "a" {
		t.Error("two answers share a list")
	}
	third, _ := impl.Lex("a b")
	if !slices.Equal(second, third) {
		t.Error(second, third)
	}
}
