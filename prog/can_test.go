package prog_test

import (
	"math"
	"strings"
	"testing"

	"dredger/api"
	"dredger/prog"
)

// can asks whether a table may be, and whether all calls that are handed one say so.
func can(t *testing.T, x api.Table, want bool) {
	t.Helper()
	if prog.Can(x) != want {
		t.Errorf("%+v: %v", x, !want)
		return
	}
	if want {
		return
	}
	isFault(t, x, prog.Check(x, nil), 0, api.ErrArg)
	isFault(t, x, prog.Check(x, make(api.Program, 70)), 0, api.ErrArg)
	if n, e := prog.Size(x, 0, value(0)); n != 0 || e != api.ErrArg {
		t.Errorf("%+v: Size: %d, %v", x, n, e)
	}
	if a, e := prog.Default(x, 0); a.Kind != 0 || a.Value != 0 || a.Kids != nil || a.Bytes != nil || e != api.ErrArg {
		t.Errorf("%+v: Default: %+v, %v", x, a, e)
	}
	if p, e := prog.Remove(x, api.Program{{}}, 0); len(p) != 0 || e != api.ErrArg {
		t.Errorf("%+v: Remove: %+v, %v", x, p, e)
	}
	if p, e := prog.Insert(x, nil, 0, api.Step{}); len(p) != 0 || e != api.ErrArg {
		t.Errorf("%+v: Insert: %+v, %v", x, p, e)
	}
}

// spoilt is the sample with a change.
func spoilt(change func(x *api.Table)) api.Table {
	x := sample()
	change(&x)
	return x
}

func TestCan(t *testing.T) {
	can(t, sample(), true)
	can(t, api.Table{}, true)
	can(t, api.Table{Types: []api.Type{}, Calls: []api.Call{}}, true)
	can(t, api.Table{Calls: []api.Call{{}}}, true)
	can(t, api.Table{Types: []api.Type{{}}}, false)
}

func TestCanCounts(t *testing.T) {
	ints := make([]api.Type, 401)
	for i := range ints {
		ints[i] = api.Type{Kind: api.TypeInt, Size: 1}
	}
	can(t, api.Table{Types: ints[:400]}, true)
	can(t, api.Table{Types: ints}, false)
	can(t, api.Table{Calls: make([]api.Call, 64)}, true)
	can(t, api.Table{Calls: make([]api.Call, 65)}, false)
}

// TestCanElems: places ahead, as many as the kind asks for.
func TestCanElems(t *testing.T) {
	for place, ty := range sample().Types {
		one, some := ty.Kind == api.TypePtr || ty.Kind == api.TypeArray, ty.Kind == api.TypeStruct || ty.Kind == api.TypeUnion
		for count := range 5 {
			x := sample()
			x.Types[place].Elems, x.Types[place].Names = make([]int, count), make([]string, count)
			can(t, x, one && count == 1 || some && count > 0 || !one && !some && count == 0)
		}
		for _, k := range []int{-1, place, place + 1, math.MaxInt, math.MinInt} {
			x := sample()
			x.Types[place].Elems = append([]int{k}, x.Types[place].Elems...)[:max(1, len(x.Types[place].Elems))]
			can(t, x, false)
		}
		for count := range 5 {
			x := sample()
			x.Types[place].Names = make([]string, count)
			can(t, x, !some || count == len(ty.Elems))
		}
	}
	// The last place ahead may stand there, and one place several times.
	can(t, spoilt(func(x *api.Table) { x.Types[tStruct].Elems = []int{tStructLen, tStructLen, tStructLen} }), true)
	can(t, spoilt(func(x *api.Table) { x.Types[tStruct].Elems = []int{0, 0, tStruct} }), false)
	can(t, spoilt(func(x *api.Table) { x.Types[tUnion].Elems = []int{0, -1, 0} }), false)
}

func TestCanKinds(t *testing.T) {
	for _, kind := range []int{0, 12, -1, math.MaxInt, math.MinInt} {
		for place := range sample().Types {
			can(t, spoilt(func(x *api.Table) { x.Types[place].Kind = kind }), false)
		}
	}
}

func TestCanSizes(t *testing.T) {
	for place, ty := range sample().Types {
		for _, size := range []int{0, 1, 2, 3, 4, 5, 7, 8, 9, 16, -1, -8, math.MaxInt, math.MinInt} {
			want := true
			switch {
			case ty.Kind <= api.TypeRes:
				want = size == 1 || size == 2 || size == 4 || size == 8
			case ty.Kind == api.TypePtr:
				want = size == 8
			}
			can(t, spoilt(func(x *api.Table) { x.Types[place].Size = size }), want)
		}
		for _, dir := range []int{0, 1, 2, 3, 4, -1, math.MaxInt, math.MinInt} {
			can(t, spoilt(func(x *api.Table) { x.Types[place].Dir = dir }), ty.Kind != api.TypePtr || dir >= 1 && dir <= 3)
		}
	}
}

func TestCanRanges(t *testing.T) {
	ends := []int{-1, 0, 1, 2, 7, 8, 9, 63, 64, 65, math.MaxInt, math.MinInt}
	for place, ty := range sample().Types {
		for _, lo := range ends {
			for _, hi := range ends {
				want := true
				switch ty.Kind {
				case api.TypeInt:
					want = lo <= hi
				case api.TypeArray:
					want = 0 <= lo && lo <= hi && hi <= 8
				case api.TypeData:
					want = 0 <= lo && lo <= hi && hi <= 64
				}
				can(t, spoilt(func(x *api.Table) { x.Types[place].Lo, x.Types[place].Hi = lo, hi }), want)
			}
		}
	}
}

func TestCanValues(t *testing.T) {
	for place, ty := range sample().Types {
		can(t, spoilt(func(x *api.Table) { x.Types[place].Values = nil }), ty.Kind != api.TypeRes)
		can(t, spoilt(func(x *api.Table) { x.Types[place].Values = []int{} }), ty.Kind != api.TypeRes)
		can(t, spoilt(func(x *api.Table) { x.Types[place].Values = []int{math.MinInt, math.MaxInt, 0, 0} }), true)
		can(t, spoilt(func(x *api.Table) { x.Types[place].Texts = nil }), ty.Kind != api.TypeText)
		can(t, spoilt(func(x *api.Table) { x.Types[place].Texts = []string{"a", strings.Repeat("b", 24)} }), true)
		can(t, spoilt(func(x *api.Table) { x.Types[place].Texts = []string{"a", strings.Repeat("b", 25)} }), ty.Kind != api.TypeText)
		can(t, spoilt(func(x *api.Table) { x.Types[place].Texts = []string{strings.Repeat("b", 25), "a"} }), ty.Kind != api.TypeText)
		can(t, spoilt(func(x *api.Table) { x.Types[place].Of = "" }), true)
	}
}

func TestCanCalls(t *testing.T) {
	for call := range sample().Calls {
		for _, n := range []int{-1, 64, math.MaxInt, math.MinInt} {
			can(t, spoilt(func(x *api.Table) { x.Calls[call].Number = n }), false)
		}
		for _, n := range []int{0, 63} {
			can(t, spoilt(func(x *api.Table) { x.Calls[call].Number = n }), true)
		}
		for _, k := range []int{-1, 13, math.MaxInt, math.MinInt} {
			can(t, spoilt(func(x *api.Table) { x.Calls[call].Args, x.Calls[call].Names = []int{0, k, 0}, make([]string, 3) }), false)
		}
		for args := range 9 {
			for names := range 9 {
				can(t, spoilt(func(x *api.Table) {
					x.Calls[call].Args, x.Calls[call].Names = make([]int, args), make([]string, names)
				}), args == names && args <= 6)
			}
		}
		can(t, spoilt(func(x *api.Table) { x.Calls[call].Name, x.Calls[call].Ret = "", "none" }), true)
		// What stands where is not asked: a struct may be an argument.
		can(t, spoilt(func(x *api.Table) { x.Calls[call].Args, x.Calls[call].Names = []int{tStruct, tPid}, []string{"a", "a"} }), true)
	}
}

// wide is a struct, or a union, of so many elems of one place.
func wide(kind, count, place int) api.Type {
	ty := api.Type{Kind: kind, Names: make([]string, count)}
	for range count {
		ty.Elems = append(ty.Elems, place)
	}
	return ty
}

func array(lo, hi, place int) api.Type {
	return api.Type{Kind: api.TypeArray, Lo: lo, Hi: hi, Elems: []int{place}}
}

func pointer(place int) api.Type {
	return api.Type{Kind: api.TypePtr, Size: 8, Dir: api.DirOut, Elems: []int{place}}
}

// TestCanGreat: at most 300 great.
func TestCanGreat(t *testing.T) {
	one := api.Type{Kind: api.TypeInt, Size: 1}
	fits := func(want bool, l ...api.Type) {
		t.Helper()
		can(t, api.Table{Types: append([]api.Type{one}, l...)}, want)
	}
	fits(true, wide(api.TypeStruct, 299, 0))
	fits(false, wide(api.TypeStruct, 300, 0))
	fits(true, wide(api.TypeStruct, 298, 0), pointer(1))
	fits(false, wide(api.TypeStruct, 299, 0), pointer(1))
	// Of an array the greatest count tells.
	fits(true, wide(api.TypeStruct, 36, 0), array(0, 8, 1))
	fits(false, wide(api.TypeStruct, 37, 0), array(0, 8, 1))
	fits(true, wide(api.TypeStruct, 298, 0), array(0, 1, 1))
	fits(false, wide(api.TypeStruct, 299, 0), array(0, 1, 1))
	fits(true, array(8, 8, 0), array(8, 8, 1), array(4, 4, 2))
	fits(false, array(8, 8, 0), array(8, 8, 1), array(5, 5, 2))
	fits(true, wide(api.TypeStruct, 299, 0), array(0, 0, 1), array(8, 8, 2))
	// Of a union the greatest part, of a struct the sum.
	fits(true, wide(api.TypeStruct, 298, 0), wide(api.TypeUnion, 500, 1))
	fits(false, wide(api.TypeStruct, 299, 0), wide(api.TypeUnion, 1, 1))
	fits(true, wide(api.TypeStruct, 298, 0), wide(api.TypeStruct, 1, 1))
	fits(false, wide(api.TypeStruct, 149, 0), wide(api.TypeStruct, 2, 1))
	fits(true, wide(api.TypeStruct, 148, 0), wide(api.TypeStruct, 2, 1))
	// Pointers in one another.
	chain := make([]api.Type, 299)
	for i := range chain {
		chain[i] = pointer(i)
	}
	fits(true, chain...)
	fits(false, append(chain, pointer(299))...)
	// One that is too great, which nothing uses, and others behind it.
	fits(false, wide(api.TypeStruct, 300, 0), one, one)
	// Structs that double, over and over.
	double := make([]api.Type, 399)
	for i := range double {
		double[i] = wide(api.TypeStruct, 2, i)
	}
	fits(false, double...)
	fits(true, double[:7]...)
	fits(false, double[:8]...)
}
