package impl

import "strings"

const (
	TkName  = 1
	TkGreat = 2
	TkNum   = 3
	TkWord  = 4
	TkMark  = 5
	TkEnd   = 6
)

const (
	MaxText = 1500
	MaxToks = 400
)

const (
	maxName   = 8
	maxDigits = 6
	aside     = "--"
	marks     = `(){};=\|+-*<_`
)

type Tok struct {
	K    int
	S    string
	Line int
	Col  int
}

func NameOk(s string) bool { return shapeOk(s, isSmall) && !isWord(s) }

func GreatOk(s string) bool { return shapeOk(s, isLarge) }

func Lex(s string) ([]Tok, bool) {
	if len(s) > MaxText {
		return []Tok{}, false
	}
	toks := []Tok{}
	line, begin := 1, 0
	done := 0
	for i, r := range s {
		switch {
		case r == '\n':
			line, begin = line+1, i+1
		case i < done || r == ' ':
			continue
		case strings.HasPrefix(s[i:], aside):
			done = i + runLen(s[i:], isNoLineEnd)
		default:
			k, n := longest(r, s[i:])
			if k == 0 {
				return []Tok{}, false
			}
			// A clone, so that no Tok holds on to the text that was handed in.
			toks = append(toks, Tok{K: k, S: strings.Clone(s[i : i+n]), Line: line, Col: i - begin + 1})
			done = i + n
		}
	}
	toks = append(toks, Tok{K: TkEnd, Line: line, Col: len(s) - begin + 1})
	if len(toks) > MaxToks {
		return []Tok{}, false
	}
	return toks, true
}

func TokText(l []Tok) string {
	var b strings.Builder
	between := ""
	for _, t := range l {
		if t.K == TkEnd {
			continue
		}
		b.WriteString(between)
		b.WriteString(t.S)
		between = " "
	}
	return b.String()
}

// longest answers the kind and the length of the Tok that s, whose first rune is r, begins with; the kind 0: there is none.
func longest(r rune, s string) (int, int) {
	switch {
	case isLetter(r):
		n := runLen(s, isLetterOrDigit)
		return kindOfLetters(s[:n]), n
	case isDigit(r):
		n := runLen(s, isDigit)
		return kindOfDigits(s[:n]), n
	case strings.HasPrefix(s, "->"), strings.HasPrefix(s, "=="):
		return TkMark, 2
	case strings.ContainsRune(marks, r):
		return TkMark, 1
	}
	return 0, 0
}

func kindOfLetters(s string) int {
	switch {
	case isWord(s):
		return TkWord
	case NameOk(s):
		return TkName
	case GreatOk(s):
		return TkGreat
	}
	return 0
}

func kindOfDigits(s string) int {
	// 0 alone is the one number whose nought ahead is needed.
	if len(s) > maxDigits || s[0] == '0' && s != "0" {
		return 0
	}
	return TkNum
}

// runLen answers how many bytes at the front of s are of runes that all fit.
func runLen(s string, fits func(rune) bool) int {
	for i, r := range s {
		if !fits(r) {
			return i
		}
	}
	return len(s)
}

// shapeOk counts bytes: all runes that pass are of one byte each.
func shapeOk(s string, first func(rune) bool) bool {
	if s == "" || len(s) > maxName {
		return false
	}
	for i, r := range s {
		if i == 0 && !first(r) || !isLetterOrDigit(r) {
			return false
		}
	}
	return true
}

func isWord(s string) bool {
	switch s {
	case "let", "in", "where", "case", "of", "if", "then", "else", "data":
		return true
	}
	return false
}

func isSmall(r rune) bool { return 'a' <= r && r <= 'z' }

func isLarge(r rune) bool { return 'A' <= r && r <= 'Z' }

func isDigit(r rune) bool { return '0' <= r && r <= '9' }

func isLetter(r rune) bool { return isSmall(r) || isLarge(r) }

func isLetterOrDigit(r rune) bool { return isLetter(r) || isDigit(r) }

func isNoLineEnd(r rune) bool { return r != '\n' }
