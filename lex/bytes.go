package lex

const noDigit = 99 // no base has a digit of this value

// value is a digit's value, of the base 16 or a lower one.
func value(b byte) int {
	switch {
	case isDigit(b):
		return int(b - '0')
	case b >= 'a' && b <= 'f':
		return int(b-'a') + 10
	}
	return noDigit
}

func isDigit(b byte) bool { return b >= '0' && b <= '9' }

func isLetter(b byte) bool { return b >= 'a' && b <= 'z' || b == '_' }

// inName: may the byte stand in a name, behind its first one?
func inName(b byte) bool { return isLetter(b) || isDigit(b) || b == '$' }

// inText: may the byte stand in a text, between its quotes?
func inText(b byte) bool { return b >= 32 && b <= 126 && b != '"' }

// inLine: does the line go on with the byte?
func inLine(b byte) bool { return b != '\n' }
