// Package sets reads sets of bytes, as patterns of names and expressions have
// them between `[` and `]`.
package sets

// Set of bytes: c is in it if bit c%64 of word c/64 is 1.
type Set [4]uint64

// Span answers the set of all bytes from one to another, none if that is less.
func Span(first, last byte) Set {
	var s Set
	// A byte would go round behind 255.
	for c := int(first); c <= int(last); c++ {
		s[c/64] |= 1 << (c % 64)
	}
	return s
}

// Has tells whether a byte is in the set.
func (s Set) Has(c byte) bool {
	return s[c/64]>>(c%64)&1 == 1
}

// With answers all bytes of both sets.
func (s Set) With(t Set) Set {
	for i := range s {
		s[i] |= t[i]
	}
	return s
}

// Without answers the set without a byte.
func (s Set) Without(c byte) Set {
	s[c/64] &^= 1 << (c % 64)
	return s
}

// Others answers all bytes that are not in the set.
func (s Set) Others() Set {
	for i := range s {
		s[i] = ^s[i]
	}
	return s
}

// OneByte answers the byte that is meant at a place of a text, and where the
// next one begins.
type OneByte func(text string, at int) (byte, int)

// Read reads what stands in a set from its first place on, and answers where
// the set ends; false: no `]` ends it.
func Read(text string, at int, one OneByte) (Set, int, bool) {
	var s Set
	for first := at; at < len(text); {
		if text[at] == ']' && at > first {
			return s, at + 1, true
		}
		t, end := readItem(text, at, one)
		s = s.With(t)
		at = end
	}
	return Set{}, 0, false
}

// readItem reads a class, a row of bytes such as `a-z`, or a byte of a set,
// and answers where it ends.
func readItem(text string, at int, one OneByte) (Set, int) {
	if IsClass(text, at) {
		end := at + classSize
		return class(text[at:end]), end
	}
	first, at := one(text, at)
	if !isDash(text, at) {
		return Span(first, first), at
	}
	last, at := one(text, at+1)
	return Span(first, last), at
}

// isDash tells whether a `-` that leads from one byte to another stands at a place.
func isDash(text string, at int) bool {
	// What ends the set is no byte of it, and a class is more than one.
	return at+1 < len(text) && text[at] == '-' && text[at+1] != ']' && !IsClass(text, at+1)
}

// classSize is the size of each class: all their names have five letters.
const classSize = len("[:alpha:]")

// IsClass tells whether a class begins at a place.
func IsClass(text string, at int) bool {
	return len(text)-at >= classSize && class(text[at:at+classSize]) != Set{}
}

// class answers the bytes of a class, none for any other text.
func class(text string) Set {
	switch text {
	case "[:alpha:]":
		return Span('A', 'Z').With(Span('a', 'z'))
	case "[:digit:]":
		return Span('0', '9')
	case "[:upper:]":
		return Span('A', 'Z')
	case "[:lower:]":
		return Span('a', 'z')
	case "[:alnum:]":
		return Span('A', 'Z').With(Span('a', 'z')).With(Span('0', '9'))
	case "[:space:]":
		return Span(9, 13).With(Span(' ', ' '))
	}
	return Set{}
}
