package types

import "dredger/api"

// Where a type stands.
const (
	inCall   = iota // a call's argument
	inStruct        // a struct's field
	inUnion         // a union's
	inType          // what a pointer or an array is made of
)

// look asks of each declaration what hangs on types.
func (c *checker) look() {
	itself := c.loops()
	for i, d := range c.decls {
		c.at = i
		switch d.Kind {
		case api.DeclStruct:
			c.lookFields(d, inStruct)
		case api.DeclUnion:
			c.lookFields(d, inUnion)
		case api.DeclCall:
			c.lookFields(d, inCall)
			c.must(len(d.Fields) <= api.MaxArgs, api.ErrFull)
			c.must(d.Ret == "" || c.names(d.Ret, api.DeclResource), api.ErrName)
		}
		c.must(!itself[i], api.ErrLoop)
	}
}

func (c *checker) lookFields(d api.Decl, where int) {
	c.enterFields(d)
	for _, f := range d.Fields {
		c.lookType(f.Type, where)
	}
}

// lookType asks of a type as it is written whether it may stand somewhere; then of what it is made of.
func (c *checker) lookType(e api.Expr, where int) {
	kind := c.kindOf(e.Name)
	c.must(kind != 0, api.ErrName)
	c.must(mayStand(kind, where), api.ErrType)
	c.must(hasParts(kind, e), api.ErrType)
	switch kind {
	case api.TypeConst:
		c.must(len(e.Values) == 1 || c.names(e.Names[0], api.DeclConst), api.ErrName)
	case api.TypeFlags:
		c.must(c.names(e.Names[0], api.DeclFlags), api.ErrName)
	case api.TypeLen:
		c.lookLength(e.Names[0])
	}
	c.lookValues(kind, e)
	for _, inner := range e.Types {
		c.lookType(inner, inType)
	}
}

// kindOf is the kind of type that a word, or a declaration, stands for, or 0.
func (c *checker) kindOf(name string) int {
	if kind := kindOf(name); kind != 0 {
		return kind
	}
	switch {
	case c.names(name, api.DeclResource):
		return api.TypeRes
	case c.names(name, api.DeclStruct):
		return api.TypeStruct
	case c.names(name, api.DeclUnion):
		return api.TypeUnion
	}
	return 0
}

// names: is there a declaration of that name and kind?
func (c *checker) names(name string, kind int) bool {
	i, ok := c.named[name]
	return ok && c.decls[i].Kind == kind
}

// mayStand: may a type of a kind stand somewhere?
func mayStand(kind, where int) bool {
	switch kind {
	case api.TypeInt, api.TypeConst, api.TypeFlags, api.TypeRes:
		return true
	case api.TypeLen:
		return where == inCall || where == inStruct
	case api.TypePtr:
		return where == inCall
	}
	return where != inCall
}

// lookLength asks for the field whose length is told.
func (c *checker) lookLength(of string) {
	i, ok := c.fields[of]
	c.must(ok, api.ErrName)
	c.must(kindOf(c.decls[c.at].Fields[i].Type.Name) != api.TypeLen, api.ErrType)
}

// lookValues asks of a type's numbers and texts whether they may be.
func (c *checker) lookValues(kind int, e api.Expr) {
	least, most := limits(kind, e.Name)
	for _, v := range e.Values {
		c.mustBeWithin(least, v, most)
	}
	for _, s := range e.Texts {
		c.must(len(s) <= api.MaxPath, api.ErrValue)
	}
	if len(e.Values) == 2 {
		c.must(e.Values[0] <= e.Values[1], api.ErrEmpty)
	}
}

// limits is from where to where the numbers of a type go.
func limits(kind int, name string) (least, most int) {
	switch kind {
	case api.TypeInt:
		return 0, greatestOf(sizeOf(name))
	case api.TypeConst:
		return -greatest, greatest
	case api.TypeArray:
		return 0, api.MaxItems
	}
	return 0, api.MaxData
}

// greatestOf is the greatest value of an integer type of a size.
func greatestOf(size int) int {
	if size > 2 {
		return greatest
	}
	return 1<<(8*size) - 1
}
