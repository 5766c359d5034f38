package lex

import "heartwood/api"

// Classes of bytes.
const (
	other = iota
	blank
	newline
	hash
	letter
	digit
	underscore
)

// pairs has the symbols of two bytes.
var pairs = [...]string{"==", "!=", "<=", "->"}

func classify(c byte) int {
	switch {
	case c == ' ' || c == '\t' || c == '\r':
		return blank
	case c == '\n':
		return newline
	case c == '#':
		return hash
	case 'A' <= c && c <= 'Z' || 'a' <= c && c <= 'z':
		return letter
	case '0' <= c && c <= '9':
		return digit
	case c == '_':
		return underscore
	}
	return other
}

// wordLength returns the length of the longest word at the beginning of s, or 0.
func wordLength(s string) int {
	for i := range len(s) {
		switch classify(s[i]) {
		case letter, digit, underscore:
		default:
			return i
		}
	}
	return len(s)
}

// commentLength returns the number of bytes of s before the end of its first line.
func commentLength(s string) int {
	for i := range len(s) {
		if classify(s[i]) == newline {
			return i
		}
	}
	return len(s)
}

// symbolLength returns the length of the longest symbol at the beginning of s, or 0.
func symbolLength(s string) int {
	if s == "" {
		return 0
	}
	for i := range len(pairs) {
		if len(s) >= 2 && s[:2] == pairs[i] {
			return 2
		}
	}
	switch s[0] {
	case '(', ')', '{', '}', '[', ']', ',', ';', ':', '.', '=', '<', '+', '-', '*', '/', '%':
		return 1
	}
	return 0
}

func isSymbol(s string) bool {
	n := symbolLength(s)
	return n > 0 && n == len(s)
}

// integer returns the value of a word that is an integer, and whether it is one.
func integer(word string) (int, bool) {
	if len(word) > 1 && word[0] == '0' {
		return 0, false
	}
	n := 0
	for i := range len(word) {
		if classify(word[i]) != digit {
			return 0, false
		}
		n = 10*n + int(word[i]-'0')
		if n > api.MaxInt {
			return 0, false
		}
	}
	return n, true
}
