// Package check is layer 2: see shared/doc/02-check.md.
package check

import (
	"iter"
)

const Most = 1 << 40

// number: is it one with which one reckons?
func number(n int) bool {
	return n >= 0 && n <= Most
}

// answer: a number as an answer; false, if it is none.
func answer(n int) (int, bool) {
	if !number(n) {
		return 0, false
	}
	return n, true
}

// Add: a sum; false: a number is none, or it is too great.
func Add(a, b int) (int, bool) {
	if !number(a) || !number(b) {
		return 0, false
	}
	return answer(a + b)
}

// Mul: a product; false, likewise.
func Mul(a, b int) (int, bool) {
	if !number(a) || !number(b) {
		return 0, false
	}
	// Divided instead of multiplied: the product may go past what an int holds.
	if b > 0 && a > Most/b {
		return 0, false
	}
	return a * b, true
}

// Up: a quotient, rounded up; false: a number is none, or the second one is 0.
func Up(a, b int) (int, bool) {
	if !number(a) || !number(b) || b == 0 {
		return 0, false
	}
	return (a + b - 1) / b, true
}

// Less: a difference, at least 0; false: a number is none.
func Less(a, b int) (int, bool) {
	if !number(a) || !number(b) {
		return 0, false
	}
	return max(a-b, 0), true
}

// Sum: the sum of all numbers; false: one is none, or it is too great.
func Sum(l iter.Seq[int]) (int, bool) {
	// A nil list is an empty one, but a nil function can't be ranged over.
	if l == nil {
		return 0, true
	}
	return total(l)
}

// total: the sum; false, too, if what is ranged over panics.
func total(l iter.Seq[int]) (n int, ok bool) {
	// The function is the caller's: it may panic, and the language makes it panic where it goes on though it was left.
	defer func() {
		if recover() != nil {
			n, ok = 0, false
		}
	}()
	ok = true
	for next := range l {
		n, ok = Add(n, next)
		if !ok {
			break
		}
	}
	return n, ok
}

// Common: the greatest number that divides both (the other one, if one is 0); false: a number is none.
func Common(a, b int) (int, bool) {
	if !number(a) || !number(b) {
		return 0, false
	}
	for b > 0 {
		a, b = b, a%b
	}
	return a, true
}

// Multiple: the least number above 0 that both divide; false: one is none, or 0, or it is too great.
func Multiple(a, b int) (int, bool) {
	common, ok := Common(a, b)
	if !ok || a == 0 || b == 0 {
		return 0, false
	}
	return Mul(a/common, b)
}
