package prog

import "dredger/api"

// least is the least argument of a type of a table that may be.
func least(t api.Table, n int) api.Arg {
	ty := t.Types[n]
	switch ty.Kind {
	case api.TypeInt, api.TypeConst:
		return api.Arg{Kind: api.ArgValue, Value: ty.Lo}
	case api.TypeRes:
		return special(ty)
	case api.TypePtr:
		return api.Arg{Kind: api.ArgPtr, Kids: leastOnes(t, ty.Elems)}
	case api.TypeArray:
		return api.Arg{Kind: api.ArgGroup, Kids: leastTimes(t, ty.Elems[0], ty.Lo)}
	case api.TypeStruct:
		return api.Arg{Kind: api.ArgGroup, Kids: leastOnes(t, ty.Elems)}
	case api.TypeUnion:
		return api.Arg{Kind: api.ArgUnion, Kids: leastOnes(t, ty.Elems[:1])}
	case api.TypeText:
		return api.Arg{Kind: api.ArgData, Bytes: []byte(ty.Texts[0])}
	case api.TypeData:
		return api.Arg{Kind: api.ArgData, Bytes: make([]byte, ty.Lo)}
	}
	return api.Arg{Kind: api.ArgValue}
}

// special is what stands for a resource that no step makes.
func special(ty api.Type) api.Arg { return api.Arg{Kind: api.ArgValue, Value: ty.Values[0]} }

// leastOnes is the least arguments of types.
func leastOnes(t api.Table, places []int) []api.Arg {
	l := make([]api.Arg, len(places))
	for i, n := range places {
		l[i] = least(t, n)
	}
	return l
}

// leastTimes is so many least arguments of a type, each in its own memory.
func leastTimes(t api.Table, n, times int) []api.Arg {
	l := make([]api.Arg, times)
	for i := range l {
		l[i] = least(t, n)
	}
	return l
}
