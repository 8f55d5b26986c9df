// Package token is layer 1: what the values of header fields are made of. See shared/doc/01-token.md.
package token

import "strings"

// tokenByte tells which bytes may stand in a token; none from 128 on may.
var tokenByte = [128]bool{
	'!': true, '#': true, '$': true, '%': true, '&': true, '\'': true, '*': true, '+': true,
	'-': true, '.': true, '^': true, '_': true, '`': true, '|': true, '~': true,
	'0': true, '1': true, '2': true, '3': true, '4': true, '5': true, '6': true, '7': true, '8': true, '9': true,
	'A': true, 'B': true, 'C': true, 'D': true, 'E': true, 'F': true, 'G': true, 'H': true, 'I': true,
	'J': true, 'K': true, 'L': true, 'M': true, 'N': true, 'O': true, 'P': true, 'Q': true, 'R': true,
	'S': true, 'T': true, 'U': true, 'V': true, 'W': true, 'X': true, 'Y': true, 'Z': true,
	'a': true, 'b': true, 'c': true, 'd': true, 'e': true, 'f': true, 'g': true, 'h': true, 'i': true,
	'j': true, 'k': true, 'l': true, 'm': true, 'n': true, 'o': true, 'p': true, 'q': true, 'r': true,
	's': true, 't': true, 'u': true, 'v': true, 'w': true, 'x': true, 'y': true, 'z': true,
}

// blank tells the two bytes that may be taken away at an end.
func blank(c byte) bool { return c == ' ' || c == '\t' }

// textByte tells the bytes that a quoted text, and the middle of a value, may have.
func textByte(c byte) bool { return c == '\t' || c >= 32 && c != 127 }

// lowerByte leaves bytes from 128 on as they are: letters are ASCII's.
func lowerByte(c byte) byte {
	if c >= 'A' && c <= 'Z' {
		return c + ('a' - 'A')
	}
	return c
}

// trim keeps no room behind the text, so that nobody can write on into what follows it.
func trim(b []byte) []byte {
	from, to := 0, len(b)
	for from < to && blank(b[from]) {
		from++
	}
	for to > from && blank(b[to-1]) {
		to--
	}
	return b[from:to:to]
}

// Is tells whether a text is a token.
func Is(s string) bool {
	for i := range len(s) {
		if s[i] >= 128 || !tokenByte[s[i]] {
			return false
		}
	}
	return s != ""
}

// Value tells whether a text may be a field's value.
func Value(s string) bool {
	if s == "" {
		return true
	}
	for i := range len(s) {
		if !textByte(s[i]) {
			return false
		}
	}
	return !blank(s[0]) && !blank(s[len(s)-1])
}

// Lower tells a text with small letters (of ASCII).
func Lower(s string) string {
	b := []byte(s)
	for i, c := range b {
		b[i] = lowerByte(c)
	}
	return string(b)
}

// Same tells whether two texts are alike but for great and small letters.
func Same(a, b string) bool {
	if len(a) != len(b) {
		return false
	}
	for i := range len(a) {
		if lowerByte(a[i]) != lowerByte(b[i]) {
			return false
		}
	}
	return true
}

// Trim tells a text without blanks at its ends.
func Trim(s string) string { return string(trim([]byte(s))) }

// Split tells a list's elements; false: a quoted text does not end.
func Split(s string) ([]string, bool) {
	text := []byte(s)
	var list []string
	from := 0
	end := func(to int) {
		if e := trim(text[from:to:to]); len(e) > 0 {
			list = append(list, string(e))
		}
		from = to + 1
	}
	for i := 0; i < len(text); i++ {
		switch text[i] {
		case ',':
			end(i)
		case '"':
			i = quoteEnd(text, i)
			if i < 0 {
				return nil, false
			}
		}
	}
	end(len(text))
	return list, true
}

// quoteEnd tells where the quoted text that begins at a place has its last quote; -1: it has none.
// It asks nothing of the bytes between: whether they may stand there is Pair's to say.
func quoteEnd(text []byte, begin int) int {
	for i := begin + 1; i < len(text); i++ {
		switch text[i] {
		case '\\':
			i++
		case '"':
			return i
		}
	}
	return -1
}

// Pair tells an element's name and its value, if it has one; false: it is none.
func Pair(s string) (name, value string, has, ok bool) {
	left, right, has := strings.Cut(s, "=")
	if !Is(left) {
		return "", "", false, false
	}
	if !has {
		return strings.Clone(left), "", false, true
	}
	if Is(right) {
		return strings.Clone(left), strings.Clone(right), true, true
	}
	text, ok := unquote(right)
	if !ok {
		return "", "", false, false
	}
	return strings.Clone(left), text, true, true
}

// unquote tells what a quoted text says; false: it is none.
func unquote(s string) (string, bool) {
	last := len(s) - 1
	if last < 1 || s[0] != '"' || s[last] != '"' {
		return "", false
	}
	text := make([]byte, 0, last-1)
	for i := 1; i < last; i++ {
		if s[i] == '"' {
			return "", false
		}
		if s[i] == '\\' {
			i++
		}
		if i == last || !textByte(s[i]) { // at last: the quote that should end it counts for nothing
			return "", false
		}
		text = append(text, s[i])
	}
	return string(text), true
}

// Quote tells a text as a quoted one; false: it can't be.
func Quote(s string) (string, bool) {
	quoted := append(make([]byte, 0, len(s)+2), '"')
	for i := range len(s) {
		if !textByte(s[i]) {
			return "", false
		}
		if s[i] == '"' || s[i] == '\\' {
			quoted = append(quoted, '\\')
		}
		quoted = append(quoted, s[i])
	}
	return string(append(quoted, '"')), true
}

// Number tells a number of digits, at most so much; false: it is none.
func Number(s string, most int) (int, bool) {
	if s == "" || most < 0 {
		return 0, false
	}
	n := 0
	for i := range len(s) {
		if s[i] < '0' || s[i] > '9' {
			return 0, false
		}
		n = appendDigit(n, int(s[i]-'0'), most)
	}
	return n, true
}

// appendDigit stops at most, so that no sum leaves its range however many digits come.
func appendDigit(n, digit, most int) int {
	if n > most/10 || digit > most-n*10 {
		return most
	}
	return n*10 + digit
}
