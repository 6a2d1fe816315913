package oracle_test

import (
	"reflect"
	"testing"
)

func equal(a, b look) bool { return reflect.DeepEqual(a, b) }

// TestListsAreLeft: a rule changes nothing of what it is asked of.
func TestListsAreLeft(t *testing.T) {
	for seed := range 2000 {
		n, again := numbers(seed), numbers(seed)
		l, before := n.any(), again.any()
		l.answers()
		if !equal(l, before) {
			t.Fatalf("%+v, it was %+v", l, before)
		}
	}
}

// TestRoomBehind: a rule neither changes nor looks at what stands behind a list's end.
func TestRoomBehind(t *testing.T) {
	for seed := range 2000 {
		n := numbers(seed)
		l, more := n.any(), n.any()
		want := l.answers()
		long := look{append(l.nodes, more.nodes...), append(l.used, more.used...), append(l.pipes, more.pipes...), append(l.open, more.open...), append(l.procs, more.procs...)}
		short := look{long.nodes[:len(l.nodes)], long.used[:len(l.used)], long.pipes[:len(l.pipes)], long.open[:len(l.open)], long.procs[:len(l.procs)]}
		if got := short.answers(); got != want {
			t.Fatalf("%v, want %v: %+v", got, want, short)
		}
		behind := look{long.nodes[len(l.nodes):], long.used[len(l.used):], long.pipes[len(l.pipes):], long.open[len(l.open):], long.procs[len(l.procs):]}
		for i := range behind.nodes {
			if !reflect.DeepEqual(behind.nodes[i], more.nodes[i]) {
				t.Fatal("nodes behind the end were changed")
			}
		}
		if len(behind.used) > 0 && !reflect.DeepEqual(behind.used, more.used) || len(behind.open) > 0 && !reflect.DeepEqual(behind.open, more.open) {
			t.Fatal("what stands behind the end was changed")
		}
	}
}
