package parse

import "dredger/api"

const deepest = 8 // a type stands within fewer others than this

func (p *parser) decls() []api.Decl {
	var l []api.Decl
	for p.lines(); !p.over(); p.lines() {
		l = append(l, p.decl())
		if !p.over() {
			p.take(api.TokLine)
		}
	}
	return l
}

func (p *parser) decl() api.Decl {
	at := p.place()
	d := api.Decl{Kind: kindOf(p.name()), At: at}
	if d.Kind == 0 {
		giveUp(at, api.ErrToken)
	}
	d.Name = p.name()
	switch d.Kind {
	case api.DeclResource:
		p.mark("[")
		d.Base = p.name()
		p.mark("]")
		p.mark(":")
		d.Values = listed(p, p.number)
	case api.DeclFlags:
		p.mark("=")
		d.Values = listed(p, p.number)
	case api.DeclConst:
		p.mark("=")
		d.Number = p.number()
	case api.DeclCall:
		p.mark("(")
		d.Number = p.number()
		p.mark(")")
		d.Fields = p.arguments()
		if p.is(api.TokName) {
			d.Ret = p.name()
		}
	default:
		d.Fields = p.members()
	}
	return d
}

// members is the fields of a struct or union.
func (p *parser) members() []api.Field {
	p.mark("{")
	p.lines()
	l := listed(p, p.field)
	p.lines()
	p.mark("}")
	return l
}

// arguments is the fields of a call.
func (p *parser) arguments() []api.Field {
	var l []api.Field
	p.mark("(")
	p.lines()
	if !p.isMark(")") {
		l = listed(p, p.field)
		p.lines()
	}
	p.mark(")")
	return l
}

func (p *parser) field() api.Field {
	at := p.place()
	return api.Field{At: at, Name: p.name(), Type: p.expr()}
}

func (p *parser) expr() api.Expr {
	at := p.place()
	e := api.Expr{At: at, Name: p.name()}
	if p.deep == deepest {
		giveUp(at, api.ErrDeep)
	}
	if p.pass("[") {
		p.deep++
		for i, x := range listed(p, p.part) {
			addPart(&e, i, x)
		}
		p.deep--
		p.mark("]")
	}
	return e
}

func (p *parser) part() part {
	switch {
	case p.is(api.TokNumber):
		return p.numbers()
	case p.is(api.TokText):
		return textPart(p.take(api.TokText).Text)
	}
	return typePart(p.expr())
}

// numbers is a part of one number, or of two with a colon between them.
func (p *parser) numbers() part {
	x := numberPart(p.number())
	if p.pass(":") {
		x.numbers = append(x.numbers, p.number())
	}
	return x
}
