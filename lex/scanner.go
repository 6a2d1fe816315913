package lex

import "dredger/api"

const greatest = 1 << 31 // a number's amount is at most this

// scanner goes through a text from its beginning; what it can't read makes it give up.
type scanner struct {
	text   string
	at     int
	tokens []api.Token
}

// giveUp leaves the scan by panic, which Scan catches: so no way through a token hands faults on.
func giveUp(at int, why api.Errno) { panic(api.Fault{At: at, Why: why}) }

func (c *scanner) over() bool { return c.at >= len(c.text) }

// byteAt is the byte at a place; a nought, which no token has, behind the end.
func (c *scanner) byteAt(at int) byte {
	if at >= len(c.text) {
		return 0
	}
	return c.text[at]
}

// passWhile is the first place from at on whose byte is of another kind, or the end.
func (c *scanner) passWhile(at int, of func(byte) bool) int {
	for at < len(c.text) && of(c.text[at]) {
		at++
	}
	return at
}

// step passes a blank, a comment or a token.
func (c *scanner) step() {
	kind := api.TokLine
	switch b := c.text[c.at]; b {
	case ' ', '\t', '\r':
		c.at++
	case '#':
		c.at = c.passWhile(c.at, inLine)
	case '(', ')', '[', ']', '{', '}', ',', ':', '=':
		// A mark is one byte, as a line's end is.
		kind = api.TokMark
		fallthrough
	case '\n':
		c.take(kind, c.at+1)
	case '"':
		c.quoted()
	case '-':
		c.number(c.at + 1)
	default:
		c.word(b)
	}
}

// word passes a number without a sign, or a name.
func (c *scanner) word(first byte) {
	switch {
	case isDigit(first):
		c.number(c.at)
	case isLetter(first):
		c.take(api.TokName, c.passWhile(c.at, inName))
	default:
		giveUp(c.at, api.ErrChar)
	}
}

// take adds the token that ends ahead of a place, and goes there.
func (c *scanner) take(kind, end int) {
	c.tokens = append(c.tokens, api.Token{Kind: kind, At: c.at, Text: c.text[c.at:end]})
	c.at = end
}

// quoted passes a text.
func (c *scanner) quoted() {
	end := c.passWhile(c.at+1, inText)
	if c.byteAt(end) != '"' {
		giveUp(c.at, api.ErrQuote)
	}
	c.tokens = append(c.tokens, api.Token{Kind: api.TokText, At: c.at, Text: c.text[c.at+1 : end]})
	c.at = end + 1
}

// number passes a number, whose digits, or whose 0x, begin at a place.
func (c *scanner) number(digits int) {
	base := 10
	// Without a digit behind it the 0 is the number.
	if c.byteAt(digits) == '0' && c.byteAt(digits+1) == 'x' && value(c.byteAt(digits+2)) < 16 {
		base, digits = 16, digits+2
	}
	amount, end := c.amount(digits, base)
	switch {
	case end == digits:
		giveUp(c.at, api.ErrChar)
	case amount > greatest:
		giveUp(c.at, api.ErrBig)
	case inName(c.byteAt(end)):
		giveUp(end, api.ErrChar)
	}
	if c.text[c.at] == '-' {
		amount = -amount
	}
	c.take(api.TokNumber, end)
	c.tokens[len(c.tokens)-1].Number = amount
}

// amount is what the digits from a place on come to (of one that is too great: some number that is), and the place behind them.
func (c *scanner) amount(at, base int) (amount, end int) {
	for value(c.byteAt(at)) < base {
		amount = min(amount*base+value(c.byteAt(at)), greatest+1)
		at++
	}
	return amount, at
}
