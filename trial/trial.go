// Package trial has what the tests of several layers share: texts and lists to try them with. No layer calls it.
package trial

import (
	"slices"
	"strings"

	"gatepost/api"
)

// Byte is the text of one byte (string(c) would be a character's).
func Byte(c int) string { return string([]byte{byte(c)}) }

// Wide makes a text of bytes one of characters, a byte each, so that a pattern sees bytes; Narrow is the way back.
func Wide(s string) string {
	r := make([]rune, len(s))
	for i := range len(s) {
		r[i] = rune(s[i])
	}
	return string(r)
}

// Narrow makes a text of characters below 256 one of bytes.
func Narrow(s string) string {
	var b []byte
	for _, r := range s {
		b = append(b, byte(r))
	}
	return string(b)
}

// Small is the plain reading of letters: those of ASCII alone are made small.
func Small(s string) string {
	b := []byte(s)
	for i, c := range b {
		if 'A' <= c && c <= 'Z' {
			b[i] = c + 32
		}
	}
	return string(b)
}

// Text is so many bytes, none of them 0, that differ from those of another seed.
func Text(n, seed int) string {
	s := make([]byte, n)
	for i := range s {
		s[i] = byte(1 + (i*7+seed*31)%255)
	}
	return string(s)
}

// Changed hands a text to a function, and each that has one byte changed, added or taken away.
func Changed(s string, see func(string)) {
	see(s)
	for i := range len(s) + 1 {
		for c := range 256 {
			see(s[:i] + Byte(c) + s[i:])
			if i < len(s) {
				see(s[:i] + Byte(c) + s[i+1:])
			}
		}
		if i < len(s) {
			see(s[:i] + s[i+1:])
		}
	}
}

// Texts hands every text of at most so many of the parts to a function.
func Texts(parts []string, most int, see func(string)) {
	Lists(parts, most, func(l []string) {
		s := ""
		for _, part := range l {
			s += part
		}
		see(s)
	})
}

// Lists hands every list of at most so many of the things to a function, each in memory of its own.
func Lists[T any](things []T, most int, see func([]T)) {
	var all func(l []T, more int)
	all = func(l []T, more int) {
		see(append([]T(nil), l...))
		for _, thing := range things {
			if more > 0 {
				all(append(l[:len(l):len(l)], thing), more-1)
			}
		}
	}
	all(nil, most)
}

// Orders hands each order of a list to a function, each in memory of its own.
func Orders[T any](l []T, see func([]T)) {
	var all func(done, left []T)
	all = func(done, left []T) {
		if len(left) == 0 {
			see(append([]T(nil), done...))
		}
		for i, next := range left {
			rest := append(append([]T(nil), left[:i]...), left[i+1:]...)
			all(append(done[:len(done):len(done)], next), rest)
		}
	}
	all(nil, l)
}

// Fields makes a list of names and values that take turns.
func Fields(parts ...string) []api.Field {
	var l []api.Field
	for i := 0; i < len(parts); i += 2 {
		l = append(l, api.Field{Name: parts[i], Value: parts[i+1]})
	}
	return l
}

// Values is the plain reading of what the fields of a name hold.
func Values(l []api.Field, name string) []string {
	var found []string
	for _, f := range l {
		if Small(f.Name) == Small(name) {
			found = append(found, f.Value)
		}
	}
	return found
}

// Letters are a name as it is, and in other letters' sizes.
func Letters(name string) []string {
	return []string{name, strings.ToLower(name), strings.ToUpper(name), strings.ToLower(name[:1]) + strings.ToUpper(name[1:])}
}

// Nearly are names that a name is not.
func Nearly(name string) []string {
	return []string{"", name + " ", " " + name, name + "s", name[1:], name[:len(name)-1], name + "\x00", "X-" + name, strings.ReplaceAll(name, name[:1], "\xff")}
}

// Control is one that says nothing, but for what the changes set.
func Control(changes ...func(*api.Control)) api.Control {
	c := api.Control{Age: -1, Shared: -1, While: -1, IfError: -1, MinFresh: -1, MaxStale: -1}
	for _, change := range changes {
		change(&c)
	}
	return c
}

// Meta is one of which nothing is known, but for what the changes set.
func Meta(changes ...func(*api.Meta)) api.Meta {
	m := api.Meta{Control: Control(), Date: -1, Expires: -1, Modified: -1, Age: -1, Asked: -1, Got: -1}
	for _, change := range changes {
		change(&m)
	}
	return m
}

// Untouched hands a list with spare room to a function, and tells whether both read as before,
// also when what the function tells has been written over, its spare room too.
func Untouched(l []api.Field, do func([]api.Field) []api.Field) bool {
	room := append(append(make([]api.Field, 0, len(l)+7), l...), Fields("Spare", "1", "Cache-Control", "no-store", "Pragma", "no-cache", "Vary", "*", "If-None-Match", "*", "Range", "", "If-Range", "")...)
	before := slices.Clone(room)
	told := do(room[:len(l)])
	whole := slices.Equal(room, before)
	told = told[:cap(told)]
	for i := range told {
		told[i] = api.Field{Name: "Written", Value: "over"}
	}
	return whole && slices.Equal(room, before)
}
