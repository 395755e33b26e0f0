// Package lines is layer 1: it cuts texts into lines.
package lines

import "strings"

// Split answers the lines of a text, in order; but the last, all are closed.
func Split(s string) []string {
	var out []string
	// A piece of s would share its memory: the pieces are cut from a copy.
	for rest := strings.Clone(s); rest != ""; {
		end := firstEnd(rest)
		out = append(out, rest[:end])
		rest = rest[end:]
	}
	return out
}

// Join answers all the texts together, whether they are lines or not.
func Join(l []string) string {
	// strings.Join would hand a single text back as it is: a Builder copies.
	var out strings.Builder
	for _, t := range l {
		out.WriteString(t)
	}
	return out.String()
}

// Whole tells whether all the texts are lines and, but the last, all closed.
func Whole(l []string) bool {
	for i, t := range l {
		if !Right(t) {
			return false
		}
		if i < len(l)-1 && !closed(t) {
			return false
		}
	}
	return true
}

// Right tells whether a text is a line.
func Right(t string) bool {
	return t != "" && firstEnd(t) == len(t)
}

// firstEnd tells where the first line of a text ends.
func firstEnd(s string) int {
	if at := strings.IndexByte(s, '\n'); at >= 0 {
		return at + 1
	}
	return len(s)
}

// closed tells whether a line ends with a byte 10.
func closed(t string) bool {
	return strings.HasSuffix(t, "\n")
}
