package token

import (
	"strings"

	"redress/api"
)

const (
	blanks = " \t\n\r"
	remark = "//"       // what a remark begins with
	signs  = "{}();:,." // those of one byte
	arrow  = "->"       // the one of two
	most   = 9          // digits of a number
)

// skip is the place behind the blanks and remarks that stand at a place.
func skip(text string, at int) int {
	for at < len(text) {
		switch {
		case strings.IndexByte(blanks, text[at]) >= 0:
			at++
		case strings.HasPrefix(text[at:], remark):
			at += line(text[at:])
		default:
			return at
		}
	}
	return at
}

// line is how many bytes a text has up to its first byte 10, or its end.
func line(s string) int {
	if n := strings.IndexByte(s, '\n'); n >= 0 {
		return n
	}
	return len(s)
}

// first is the token that a text begins with, as if that were its place, or why none does. Its Text is a piece of that text.
func first(s string) (api.Token, api.Errno) {
	if n := word(s); n > 0 {
		if n > api.MaxName {
			return api.Token{}, api.ErrLong
		}
		return api.Token{Kind: api.KWord, Text: s[:n]}, api.OK
	}
	if n := number(s); n > 0 {
		return numbered(s[:n])
	}
	if n := sign(s); n > 0 {
		return api.Token{Kind: api.KSign, Text: s[:n]}, api.OK
	}
	return api.Token{}, api.ErrRune
}

// numbered is the number that all these digits are. Too many are told ahead of a 0 at their beginning, as the chapter names them.
func numbered(digits string) (api.Token, api.Errno) {
	if len(digits) > most {
		return api.Token{}, api.ErrLong
	}
	if len(digits) > 1 && digits[0] == '0' {
		return api.Token{}, api.ErrRune
	}
	n := 0
	for i := range len(digits) {
		n = n*10 + int(digits[i]-'0')
	}
	return api.Token{Kind: api.KNumber, Text: digits, Num: n}, api.OK
}

// word is how many bytes the word has that a text begins with: 0, if none does.
func word(s string) int {
	if s == "" || !letter(s[0]) {
		return 0
	}
	n := 1
	for n < len(s) && (letter(s[n]) || digit(s[n]) || s[n] == '_') {
		n++
	}
	return n
}

// number is how many digits a text begins with.
func number(s string) int {
	n := 0
	for n < len(s) && digit(s[n]) {
		n++
	}
	return n
}

// sign is how many bytes the sign has that a text begins with: 0, if none does.
func sign(s string) int {
	switch {
	case strings.HasPrefix(s, arrow):
		return len(arrow)
	case s != "" && strings.IndexByte(signs, s[0]) >= 0:
		return 1
	}
	return 0
}

func letter(c byte) bool { return c >= 'a' && c <= 'z' || c >= 'A' && c <= 'Z' }

func digit(c byte) bool { return c >= '0' && c <= '9' }
