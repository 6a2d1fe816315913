package parse

import "dredger/api"

// parser goes through tokens from the first one on; one that can't stand where it does makes it give up.
type parser struct {
	tokens []api.Token
	at     int // the next token's place
	end    int // the description's, where more is wanted behind the last token
	deep   int // how many types the next token stands within
}

// giveUp leaves the parser by panic, which Parse catches: so no rule of the grammar hands faults on.
func giveUp(at int, why api.Errno) { panic(api.Fault{At: at, Why: why}) }

func (p *parser) over() bool { return p.at == len(p.tokens) }

// place is the byte where the next token begins, or the description ends.
func (p *parser) place() int {
	if p.over() {
		return p.end
	}
	return p.tokens[p.at].At
}

func (p *parser) is(kind int) bool { return !p.over() && p.tokens[p.at].Kind == kind }

func (p *parser) isMark(text string) bool {
	return p.is(api.TokMark) && p.tokens[p.at].Text == text
}

// take is the next token, which must be of a kind.
func (p *parser) take(kind int) api.Token {
	if !p.is(kind) {
		giveUp(p.place(), api.ErrToken)
	}
	p.at++
	return p.tokens[p.at-1]
}

func (p *parser) name() string { return p.take(api.TokName).Text }

func (p *parser) number() int { return p.take(api.TokNumber).Number }

// mark passes a mark that must be there.
func (p *parser) mark(text string) {
	if !p.pass(text) {
		giveUp(p.place(), api.ErrToken)
	}
}

// pass passes a mark, if it is there.
func (p *parser) pass(text string) bool {
	found := p.isMark(text)
	if found {
		p.at++
	}
	return found
}

// lines passes lines' ends, where any number of them may stand.
func (p *parser) lines() {
	for p.is(api.TokLine) {
		p.at++
	}
}

// listed is one item or more, each read by a function, with commas between them.
func listed[T any](p *parser, item func() T) []T {
	l := []T{item()}
	for p.pass(",") {
		p.lines()
		l = append(l, item())
	}
	return l
}
