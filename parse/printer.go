package parse

import "dredger/api"

// printer makes the tokens that lex is to print.
type printer struct{ tokens []api.Token }

func (p *printer) add(kind int, text string) {
	p.tokens = append(p.tokens, api.Token{Kind: kind, Text: text})
}

func (p *printer) name(text string) { p.add(api.TokName, text) }

func (p *printer) mark(text string) { p.add(api.TokMark, text) }

func (p *printer) number(n int) {
	p.tokens = append(p.tokens, api.Token{Kind: api.TokNumber, Number: n})
}

// commas writes items, each by a function, with commas between them.
func commas[T any](p *printer, l []T, item func(T)) {
	for i, x := range l {
		if i > 0 {
			p.mark(",")
		}
		item(x)
	}
}

func (p *printer) decl(d api.Decl) {
	word := wordOf(d.Kind)
	if word == "" {
		return
	}
	p.name(word)
	p.name(d.Name)
	switch d.Kind {
	case api.DeclResource:
		p.mark("[")
		p.name(d.Base)
		p.mark("]")
		p.mark(":")
		commas(p, d.Values, p.number)
	case api.DeclFlags:
		p.mark("=")
		commas(p, d.Values, p.number)
	case api.DeclConst:
		p.mark("=")
		p.number(d.Number)
	case api.DeclCall:
		p.mark("(")
		p.number(d.Number)
		p.mark(")")
		p.fields("(", d.Fields, ")")
		if d.Ret != "" {
			p.name(d.Ret)
		}
	default:
		p.fields("{", d.Fields, "}")
	}
	p.add(api.TokLine, "\n")
}

func (p *printer) fields(begin string, l []api.Field, end string) {
	p.mark(begin)
	commas(p, l, p.field)
	p.mark(end)
}

func (p *printer) field(f api.Field) {
	p.name(f.Name)
	p.expr(f.Type)
}

func (p *printer) expr(e api.Expr) {
	p.name(e.Name)
	if parts := partsOf(e); len(parts) > 0 {
		p.mark("[")
		commas(p, parts, p.part)
		p.mark("]")
	}
}

func (p *printer) part(x part) {
	switch x.kind {
	case api.TokNumber:
		commas(p, x.numbers, p.number)
	case api.TokText:
		p.add(api.TokText, x.text)
	default:
		p.expr(x.expr)
	}
}
