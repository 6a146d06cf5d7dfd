// Package chars is layer 1, bytes and words: see shared/doc/01-chars.md.
package chars

import (
	"slices"
	"strconv"

	"picklock/api"
)

// Classes of bytes.
const (
	Other = 0
	Low   = 1
	Up    = 2
	Digit = 3
	Sign  = 4
	Space = 5
)

// Class tells the class of a byte (P1.1).
func Class(b byte) int {
	switch {
	case 'a' <= b && b <= 'z':
		return Low
	case 'A' <= b && b <= 'Z':
		return Up
	case '0' <= b && b <= '9':
		return Digit
	}
	switch b {
	case '(', ')', ',', '/', '=', '.', ';', ':', '$', '%':
		return Sign
	case ' ', '\n', '\r', '\t':
		return Space
	}
	return Other
}

// Part tells whether a byte may stand inside a word (P1.1).
func Part(b byte) bool {
	switch Class(b) {
	case Other:
		if b != '_' {
			return false
		}
		fallthrough
	case Low, Up, Digit:
		return true
	}
	return false
}

// Word tells whether a text may name a function, a private name or a frame (P1.2).
func Word(s string) bool { return spelt(s, Low) && !Key(s) }

// Upper tells whether a text may name a variable (P1.2).
func Upper(s string) bool { return spelt(s, Up) && !Key(s) }

// Key tells whether a text is one of the words that the grammar keeps for itself (P1.2).
func Key(s string) bool { return slices.Contains(Keys(), s) }

// Keys tells the words that the grammar keeps for itself (P1.2).
func Keys() []string {
	return []string{"fun", "name", "rule", "frame", "deduce", "equiv", "normal", "use"}
}

// Number tells which number from 0 to MaxNumber a text is (P1.3).
func Number(s string) (int, bool) {
	n, err := strconv.Atoi(s)
	if err != nil || n < 0 || n > api.MaxNumber {
		return 0, false
	}
	// Atoi takes a sign and noughts ahead, which a number in a text may not have.
	if Digits(n) != s {
		return 0, false
	}
	return n, true
}

// Digits writes a number in decimal (P1.3).
func Digits(n int) string { return strconv.Itoa(n) }

// spelling is a text, and the class that its first byte must be of.
type spelling struct {
	text  string
	first int
}

// fits tells whether byte i may stand where it does.
func (s spelling) fits(i int) bool {
	if i == 0 {
		return Class(s.text[i]) == s.first
	}
	return Part(s.text[i])
}

// spelt tells whether a text is put together as a word that begins with a byte of that class.
func spelt(s string, first int) bool {
	if s == "" || len(s) > api.MaxName {
		return false
	}
	return every(len(s), spelling{s, first}.fits)
}

// every tells whether all numbers from 0 to below n pass.
func every(n int, pass func(int) bool) bool {
	for i := range n {
		if !pass(i) {
			return false
		}
	}
	return true
}
