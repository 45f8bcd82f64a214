// Package digits is layer 1: see shared/doc/01-digits.md.
package digits

import (
	"iter"
	"remontoir/api"
	"strconv"
	"strings"
)

const Most = 1<<31 - 1

// signs are the figures by their values; a base has as many of them as it is.
const signs = "0123456789abcdef"

// Text: a number in decimal digits; of one below 0, or above Most, the nearer bound.
func Text(n int) string {
	return strconv.Itoa(min(max(n, 0), Most))
}

// Read: the number of just such a text; ErrDigits of others.
func Read(s string) (int, api.Errno) {
	n, ok := figures(s, 10)
	// Held against its Text, as that alone is read: noughts ahead, a value too great (wrapped round or not) and an empty text are found so.
	if !ok || Text(n) != s {
		return 0, api.ErrDigits
	}
	return n, api.OK
}

// Word: a word of bits in eight figures of the base 16.
func Word(x uint32) string {
	var l [8]byte
	for i := range l {
		l[i] = signs[x>>(28-4*i)&15]
	}
	return string(l[:])
}

// ReadWord: the word of just such a text; ErrWord of others.
func ReadWord(s string) (uint32, api.Errno) {
	n, ok := figures(s, 16)
	if !ok || Word(uint32(n)) != s {
		return 0, api.ErrWord
	}
	return uint32(n), api.OK
}

// figures: the value of a text of figures of a base, wrapped round as an int is (0 of an empty one); false: a byte is no figure.
func figures(s string, base int) (int, bool) {
	n := 0
figure:
	for i := range len(s) {
		for value := range base {
			if s[i] == signs[value] {
				n = n*base + value
				continue figure
			}
		}
		return 0, false
	}
	return n, true
}

// Pieces goes through what stands between blanks, numbered from 0 on.
func Pieces(s string) iter.Seq2[int, string] {
	return func(yield func(int, string) bool) {
		n := 0
		for piece := range strings.SplitSeq(s, " ") {
			if piece == "" {
				continue
			}
			// Cloned, as what is answered shares no memory with what was handed in.
			if !yield(n, strings.Clone(piece)) {
				return
			}
			n++
		}
	}
}

// Lines goes through the lines of a text, numbered from 1 on, without what follows a #, and without the byte 10 at their ends; a last one that is empty is none.
func Lines(s string) iter.Seq2[int, string] {
	return func(yield func(int, string) bool) {
		n := 0
		for line := range strings.Lines(s) {
			n++
			line, _, _ = strings.Cut(strings.TrimSuffix(line, "\n"), "#")
			// Cloned, as what is answered shares no memory with what was handed in.
			if !yield(n, strings.Clone(line)) {
				return
			}
		}
	}
}
