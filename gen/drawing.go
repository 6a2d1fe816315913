package gen

import (
	"slices"

	"dredger/api"
	"dredger/draw"
)

// mostValues is among how many an integer of a great range is drawn.
const mostValues = 1 << 31

// drawing is draws for the arguments of a step behind a program, which is one of the table but for lengths.
type drawing struct {
	*draw.Draws
	table api.Table
	ahead api.Program
}

// behind is a program with a step behind it, in memory of its own.
func behind(p api.Program, s api.Step) api.Program { return append(slices.Clip(p), s) }

// drawn is a program of at most n steps, but for its lengths.
func drawn(t api.Table, c *draw.Choice, d *draw.Draws, n int) api.Program {
	if n == 0 || len(t.Calls) == 0 {
		return nil
	}
	p := make(api.Program, 1+d.Next(n))
	last := -1
	for i := range p {
		last, _ = c.Pick(d, last)
		p[i] = drawing{d, t, p[:i]}.step(last)
	}
	return p
}

// step is a step of a call, but for its lengths.
func (d drawing) step(call int) api.Step {
	return api.Step{Call: call, Args: d.arguments(d.table.Calls[call].Args)}
}

// arguments is an argument of each type, in order.
func (d drawing) arguments(places []int) []api.Arg {
	l := make([]api.Arg, len(places))
	for i, n := range places {
		l[i] = d.argument(n)
	}
	return l
}

// argument is one of a type, by the method of its kind.
func (d drawing) argument(n int) api.Arg {
	y := d.table.Types[n]
	return byKind()[y.Kind](d, y)
}

// byKind is what is drawn of a type.
func byKind() [api.TypeData + 1]func(drawing, api.Type) api.Arg {
	return [...]func(drawing, api.Type) api.Arg{
		api.TypeInt:    drawing.integer,
		api.TypeConst:  drawing.constant,
		api.TypeFlags:  drawing.flags,
		api.TypeLen:    drawing.length,
		api.TypeRes:    drawing.resource,
		api.TypePtr:    drawing.pointer,
		api.TypeArray:  drawing.array,
		api.TypeStruct: drawing.structure,
		api.TypeUnion:  drawing.union,
		api.TypeText:   drawing.text,
		api.TypeData:   drawing.data,
	}
}

func value(v int) api.Arg { return api.Arg{Kind: api.ArgValue, Value: v} }

func (d drawing) integer(y api.Type) api.Arg {
	switch d.Next(4) {
	case 0:
		return value(y.Lo)
	case 1:
		return value(y.Hi)
	}
	return value(y.Lo + d.Next(values(y)))
}

// values is among how many an integer is drawn. Its range may be more than an int holds.
func values(y api.Type) int {
	return 1 + int(min(uint64(y.Hi)-uint64(y.Lo), mostValues-1))
}

func (d drawing) constant(y api.Type) api.Arg { return value(y.Lo) }

func (d drawing) flags(y api.Type) api.Arg {
	bits := 0
	for _, v := range y.Values {
		if d.Next(2) == 1 {
			bits |= v
		}
	}
	return value(bits)
}

// length is 0 as long as the step is not whole.
func (d drawing) length(api.Type) api.Arg { return value(0) }

func (d drawing) resource(y api.Type) api.Arg {
	makers := d.makers(y.Of)
	if k := d.Next(len(makers) + 1); k < len(makers) {
		return api.Arg{Kind: api.ArgRef, Value: makers[k]}
	}
	return value(y.Values[d.Next(len(y.Values))])
}

// makers is the places of the steps that make a resource.
func (d drawing) makers(resource string) []int {
	var l []int
	for i, s := range d.ahead {
		if d.table.Calls[s.Call].Ret == resource {
			l = append(l, i)
		}
	}
	return l
}

func (d drawing) pointer(y api.Type) api.Arg {
	if d.Next(8) == 0 {
		return api.Arg{Kind: api.ArgPtr}
	}
	return api.Arg{Kind: api.ArgPtr, Kids: d.arguments(y.Elems)}
}

// count is how many items, or bytes, there are.
func (d drawing) count(y api.Type) int { return y.Lo + d.Next(y.Hi-y.Lo+1) }

func (d drawing) array(y api.Type) api.Arg {
	return api.Arg{Kind: api.ArgGroup, Kids: d.arguments(slices.Repeat(y.Elems, d.count(y)))}
}

func (d drawing) structure(y api.Type) api.Arg {
	return api.Arg{Kind: api.ArgGroup, Kids: d.arguments(y.Elems)}
}

func (d drawing) union(y api.Type) api.Arg {
	part := d.Next(len(y.Elems))
	return api.Arg{Kind: api.ArgUnion, Value: part, Kids: d.arguments(y.Elems[part : part+1])}
}

func (d drawing) text(y api.Type) api.Arg {
	return api.Arg{Kind: api.ArgData, Bytes: []byte(y.Texts[d.Next(len(y.Texts))])}
}

func (d drawing) data(y api.Type) api.Arg {
	b := make([]byte, d.count(y))
	for i := range b {
		b[i] = byte(d.Next(256))
	}
	return api.Arg{Kind: api.ArgData, Bytes: b}
}
