package glob

// set of bytes: c is in it if bit c%64 of word c/64 is 1.
type set [4]uint64

// span answers the set of all bytes from one to another, none if that is less.
func span(first, last byte) set {
	var s set
	// A byte would go round behind 255.
	for c := int(first); c <= int(last); c++ {
		s[c/64] |= 1 << (c % 64)
	}
	return s
}

// has tells whether a byte is in the set.
func (s set) has(c byte) bool {
	return s[c/64]>>(c%64)&1 == 1
}

// with answers all bytes of both sets.
func (s set) with(t set) set {
	for i := range s {
		s[i] |= t[i]
	}
	return s
}

// noSlash answers the set, or all others, without the slash.
func noSlash(s set, others bool) set {
	slash := span('/', '/')
	for i := range s {
		if others {
			s[i] = ^s[i]
		}
		s[i] &^= slash[i]
	}
	return s
}

// readSet reads the set whose `[` stands ahead of a place, and answers where
// it ends; false: no `]` ends it.
func readSet(pattern string, at int) (set, int, bool) {
	others := at < len(pattern) && (pattern[at] == '!' || pattern[at] == '^')
	if others {
		at++
	}
	var s set
	for first := at; at < len(pattern); {
		if pattern[at] == ']' && at > first {
			return noSlash(s, others), at + 1, true
		}
		t, end := readItem(pattern, at)
		s = s.with(t)
		at = end
	}
	return set{}, 0, false
}

// readItem reads a class, a row of bytes such as `a-z`, or a byte of a set,
// and answers where it ends.
func readItem(pattern string, at int) (set, int) {
	if isClass(pattern, at) {
		end := at + classSize
		return class(pattern[at:end]), end
	}
	first, at := readByte(pattern, at)
	if !isDash(pattern, at) {
		return span(first, first), at
	}
	last, at := readByte(pattern, at+1)
	return span(first, last), at
}

// isDash tells whether a `-` that leads from one byte to another stands at a place.
func isDash(pattern string, at int) bool {
	// What ends the set is no byte of it, and a class is more than one.
	return at+1 < len(pattern) && pattern[at] == '-' && pattern[at+1] != ']' && !isClass(pattern, at+1)
}

// classSize is the size of each class: all their names have five letters.
const classSize = len("[:alpha:]")

// isClass tells whether a class begins at a place.
func isClass(pattern string, at int) bool {
	return len(pattern)-at >= classSize && class(pattern[at:at+classSize]) != set{}
}

// class answers the bytes of a class, none for any other text.
func class(text string) set {
	switch text {
	case "[:alpha:]":
		return span('A', 'Z').with(span('a', 'z'))
	case "[:digit:]":
		return span('0', '9')
	case "[:upper:]":
		return span('A', 'Z')
	case "[:lower:]":
		return span('a', 'z')
	case "[:alnum:]":
		return span('A', 'Z').with(span('a', 'z')).with(span('0', '9'))
	case "[:space:]":
		return span(9, 13).with(span(' ', ' '))
	}
	return set{}
}
