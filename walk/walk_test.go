package walk_test

import (
	"fmt"
	"reflect"
	"strings"
	"testing"

	"dredger/api"
	"dredger/walk"
)

// table has a call of an integer, a pointer to a struct, a length.
func table() api.Table {
	return api.Table{
		Types: []api.Type{
			{Kind: api.TypeInt, Size: 4, Hi: 9},
			{Kind: api.TypeArray, Hi: 3, Elems: []int{0}},
			{Kind: api.TypeUnion, Elems: []int{0, 1}, Names: []string{"a", "b"}},
			{Kind: api.TypeLen, Size: 2, Of: "u"},
			{Kind: api.TypeStruct, Elems: []int{3, 2}, Names: []string{"n", "u"}},
			{Kind: api.TypePtr, Size: 8, Dir: api.DirIn, Elems: []int{4}},
			{Kind: api.TypeLen, Size: 2, Of: "p"},
		},
		Calls: []api.Call{{Name: "f", Args: []int{0, 5, 6}, Names: []string{"i", "p", "n"}}},
	}
}

func value(v int) api.Arg { return api.Arg{Kind: api.ArgValue, Value: v} }

func step() api.Step {
	array := api.Arg{Kind: api.ArgGroup, Kids: []api.Arg{value(7), value(8)}}
	union := api.Arg{Kind: api.ArgUnion, Value: 1, Kids: []api.Arg{array}}
	group := api.Arg{Kind: api.ArgGroup, Kids: []api.Arg{value(3), union}}
	return api.Step{Args: []api.Arg{value(1), {Kind: api.ArgPtr, Kids: []api.Arg{group}}, value(2)}}
}

// met is the places of types, and the values, in the order in which a walk meets them.
func met(t api.Table, r walk.Row, into func(walk.Spot) bool) string {
	var b strings.Builder
	walk.Through(t, r, func(s walk.Spot) bool {
		fmt.Fprintf(&b, " %d:%d", s.Place, s.Arg.Value)
		return into(s)
	})
	return b.String()
}

func always(walk.Spot) bool { return true }

func TestOrder(t *testing.T) {
	x := table()
	if got := met(x, walk.Of(x, step()), always); got != " 0:1 5:0 4:0 3:3 2:1 1:0 0:7 0:8 6:2" {
		t.Error(got)
	}
	notPointers := func(s walk.Spot) bool { return s.Type.Kind != api.TypePtr }
	if got := met(x, walk.Of(x, step()), notPointers); got != " 0:1 5:0 6:2" {
		t.Error(got)
	}
	if got := met(x, walk.One(2, step().Args[1].Kids[0].Kids[1]), always); got != " 2:1 1:0 0:7 0:8" {
		t.Error(got)
	}
	if got := met(api.Table{}, walk.Row{Args: step().Args}, always); got != " -1:1 -1:0 -1:0 -1:3 -1:1 -1:0 -1:7 -1:8 -1:2" {
		t.Error(got)
	}
}

// TestChanged: what a function makes of an argument is gone into.
func TestChanged(t *testing.T) {
	x, s := table(), step()
	walk.Through(x, walk.Of(x, s), func(s walk.Spot) bool {
		if s.Type.Kind == api.TypeArray {
			s.Arg.Kids = []api.Arg{value(5)}
		}
		if s.Type.Kind == api.TypeInt {
			s.Arg.Value++
		}
		return true
	})
	if got := met(x, walk.Of(x, s), always); got != " 0:2 5:0 4:0 3:3 2:1 1:0 0:6 6:2" {
		t.Error(got)
	}
}

// TestMisfits: where arguments and types do not fit, types are not known, and the walk goes on.
func TestMisfits(t *testing.T) {
	x := table()
	for _, call := range []int{-1, 1, 1 << 60} {
		s := step()
		s.Call = call
		if got := met(x, walk.Of(x, s), always); !strings.HasPrefix(got, " -1:1 -1:0") {
			t.Error(call, got)
		}
	}
	more := step()
	more.Args = append(more.Args, value(6))
	if got := met(x, walk.Of(x, more), always); !strings.HasSuffix(got, " 6:2 -1:6") {
		t.Error(got)
	}
	kids := []api.Arg{value(1), value(2), value(3)}
	for n, want := range map[int]string{
		0: " 0:0 -1:1 -1:2 -1:3", 1: " 1:0 0:1 0:2 0:3", 2: " 2:0 0:1 -1:2 -1:3", 3: " 3:0 -1:1 -1:2 -1:3",
		4: " 4:0 3:1 2:2 -1:3", 5: " 5:0 4:1 4:2 4:3", -1: " -1:0 -1:1 -1:2 -1:3", 7: " -1:0 -1:1 -1:2 -1:3",
	} {
		if got := met(x, walk.One(n, api.Arg{Kids: kids}), always); got != want {
			t.Error(n, got)
		}
	}
	for _, part := range []int{-1, 2, 1 << 60} {
		if got := met(x, walk.One(2, api.Arg{Value: part, Kids: kids[:1]}), always); !strings.HasSuffix(got, " -1:1") {
			t.Error(part, got)
		}
	}
	x.Types[5].Elems, x.Types[1].Elems = nil, []int{9}
	if got := met(x, walk.Of(x, step()), always); !strings.HasPrefix(got, " 0:1 5:0 -1:0 -1:3") {
		t.Error(got)
	}
	if got := met(x, walk.One(1, api.Arg{Kids: kids}), always); got != " 1:0 -1:1 -1:2 -1:3" {
		t.Error(got)
	}
}

// TestMeasured: what lengths tell the size of, where they stand.
func TestMeasured(t *testing.T) {
	x := table()
	measured := func(s api.Step) (l []api.Arg, places []int) {
		walk.Through(x, walk.Of(x, s), func(s walk.Spot) bool {
			if of, ok := s.Measured(x); s.Type.Kind == api.TypeLen && ok {
				l, places = append(l, *of.Arg), append(places, of.Place)
			}
			return true
		})
		return l, places
	}
	s := step()
	group := s.Args[1].Kids[0]
	if l, places := measured(s); !reflect.DeepEqual(l, []api.Arg{group.Kids[1], group}) || !reflect.DeepEqual(places, []int{2, 4}) {
		t.Error(l, places)
	}
	s.Args[1].Kids = nil
	if l, _ := measured(s); l != nil {
		t.Error("of a pointer to nothing:", l)
	}
	// The first of a name; none of a name that there is not, or whose argument is missing.
	s = step()
	x.Calls[0].Names[0] = "p"
	if l, places := measured(s); len(l) != 2 || places[1] != 0 {
		t.Error(l, places)
	}
	x.Calls[0].Names = []string{"a", "b", "c"}
	if l, _ := measured(s); len(l) != 1 {
		t.Error(l)
	}
	x.Calls[0].Names, x.Calls[0].Args = []string{"a", "b", "p"}, []int{6, 6, 6}
	s.Args = s.Args[:1]
	if l, _ := measured(s); l != nil {
		t.Error(l)
	}
	// Kids of an array stand without names.
	x.Types[1].Elems[0] = 0
	x.Types[0] = api.Type{Kind: api.TypeLen, Size: 1}
	if _, ok := (walk.One(1, api.Arg{Kids: []api.Arg{value(1)}}).At(x, 0).Kids().At(x, 0)).Measured(x); ok {
		t.Error("in an array")
	}
}
