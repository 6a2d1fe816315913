package text

import "strings"

// cursor goes through a line from its first byte on.
type cursor struct {
	line string
	at   int
	deep int // how many arguments the next byte stands within
}

func (c *cursor) over() bool { return c.at == len(c.line) }

// next is the next byte; a nought, which no piece has, at the end.
func (c *cursor) next() byte {
	if c.over() {
		return 0
	}
	return c.line[c.at]
}

// pass passes some bytes, if they stand there.
func (c *cursor) pass(s string) bool {
	found := strings.HasPrefix(c.line[c.at:], s)
	if found {
		c.at += len(s)
	}
	return found
}

// run is the bytes of one kind that stand there, as far as they go.
func (c *cursor) run(of func(byte) bool) string {
	from := c.at
	for !c.over() && of(c.line[c.at]) {
		c.at++
	}
	return c.line[from:c.at]
}

func isBlank(b byte) bool { return b == ' ' }

func isDigit(b byte) bool { return '0' <= b && b <= '9' }

// isLetter: may a name begin with it?
func isLetter(b byte) bool { return 'a' <= b && b <= 'z' || b == '_' }

func inName(b byte) bool { return isLetter(b) || isDigit(b) || b == '$' }

func inQuotes(b byte) bool { return b != '"' }
