// Package sum is layer 1: see shared/doc/01-sum.md.
package sum

import (
	"iter"
	"strings"

	"redress/api"
)

const (
	turn   = 0x82f63b78           // what a sum's word is xored with
	basis  = 14695981039346656037 // what a print begins with
	factor = 1099511628211        // what a print is multiplied by
	ahead  = 8                    // bytes of a frame ahead of its body: its length, its sum
)

// Crc is a text's sum.
func Crc(s string) uint32 { return More(0, s) }

// More is the sum of a text whose sum was c, with s behind it.
func More(c uint32, s string) uint32 { return more(fours(), c, s) }

// Long is a text's print.
func Long(s string) uint64 {
	p := uint64(basis)
	for i := range len(s) {
		p = (p ^ uint64(s[i])) * factor
	}
	return p
}

// fours tells of each four bits what a word that has just them becomes by four steps. The steps are linear, so it stands for the lowest four bits of every word.
func fours() [16]uint32 {
	var t [16]uint32
	for i := range t {
		c := uint32(i)
		for range 4 {
			if c&1 == 1 {
				c = c>>1 ^ turn
			} else {
				c >>= 1
			}
		}
		t[i] = c
	}
	return t
}

// more is More with its table made: frames that stand one behind the other need but one.
func more(t [16]uint32, c uint32, s string) uint32 {
	c = ^c
	for i := range len(s) {
		c ^= uint32(s[i])
		c = c>>4 ^ t[c&15]
		c = c>>4 ^ t[c&15]
	}
	return ^c
}

// Frame is a body's frame.
func Frame(body string) (string, api.Errno) {
	if len(body) > api.MaxRecord {
		return "", api.ErrLong
	}
	length := four(uint32(len(body)))
	return length + four(More(Crc(length), body)) + body, api.OK
}

// Next is the body of the frame that stands at a place, and the place behind it.
func Next(s string, at int) (body string, next int, ok bool) {
	next, ok = behind(fours(), s, at)
	if !ok {
		return "", 0, false
	}
	return bodyOf(s[at:next]), next, true
}

// four is a number of four bytes.
func four(n uint32) string {
	return string([]byte{byte(n), byte(n >> 8), byte(n >> 16), byte(n >> 24)})
}

// number is the number of four bytes that a text begins with.
func number(s string) uint32 {
	return uint32(s[0]) | uint32(s[1])<<8 | uint32(s[2])<<16 | uint32(s[3])<<24
}

// behind is the place behind the frame that stands at a place, if one does.
func behind(t [16]uint32, s string, at int) (int, bool) {
	if at < 0 || at > len(s)-ahead {
		return 0, false
	}
	length, body := s[at:at+4], s[at+ahead:]
	n := number(length)
	// Held against MaxRecord ahead of its becoming an int, which may have no more than 32 bits.
	if n > api.MaxRecord || int(n) > len(body) {
		return 0, false
	}
	if more(t, more(t, 0, length), body[:n]) != number(s[at+4:]) {
		return 0, false
	}
	return at + ahead + int(n), true
}

// bodyOf is the body of a frame, cloned lest it keep alive the whole text that the frame stands in.
func bodyOf(frame string) string { return strings.Clone(frame[ahead:]) }

// ends tells the places behind the frames that a text begins with.
func ends(s string) iter.Seq[int] {
	return func(yield func(int) bool) {
		t := fours()
		at, ok := behind(t, s, 0)
		for ok && yield(at) {
			at, ok = behind(t, s, at)
		}
	}
}

// Whole is how long the frames are that a text begins with.
func Whole(s string) int {
	whole := 0
	for end := range ends(s) {
		whole = end
	}
	return whole
}

// All is the bodies of these frames.
func All(s string) iter.Seq[string] {
	return func(yield func(string) bool) {
		at := 0
		for end := range ends(s) {
			if !yield(bodyOf(s[at:end])) {
				return
			}
			at = end
		}
	}
}
