package shrink_test

import (
	"slices"
	"strings"
	"testing"

	"dredger/api"
	"dredger/shrink"
)

// TestExample: the chapter's.
func TestExample(t *testing.T) {
	x := sample(t)
	p := program(t, x, "r0 = open(/a, 11)", "r1 = open(/b, 11)", "r2 = getpid()", "r3 = dup2(r0, r1)")
	shrinks(t, p, api.DefectDup, nil, 8, "r0 = open(/a, 11)", "r1 = open(/b, 11)", "r2 = dup2(r0, r1)")
}

// TestEachDefect: P23.1, of each defect the calls that its fault needs are left, whatever stands between them.
func TestEachDefect(t *testing.T) {
	x := sample(t)
	for defect, want := range map[int][]string{
		api.DefectLinks:  {"r0 = open(/a, 10)", "link(/a, /b)", "unlink(/b)"},
		api.DefectRename: {"r0 = open(/a, 10)", "r1 = open(/b, 10)", "rename(/a, /b)"},
		api.DefectBlocks: {"r0 = open(/a, 10)", "write(r0, twenty)", "truncate(/a, 3)"},
		api.DefectWriter: {"pipe(two)"},
		api.DefectFork:   {"r0 = open(/a, 10)", "r1 = fork()"},
		api.DefectDup:    {"r0 = open(/a, 10)", "r1 = open(/b, 10)", "r2 = dup2(r0, r1)"},
	} {
		n := len(want)
		p := program(t, x, want...)
		shrinks(t, p, defect, nil, 1+n, want...)
		if r := fault(t, x, p, 63&^defect, nil); r != 0 && defect != api.DefectBlocks {
			t.Errorf("without defect %d: %d", defect, r)
		}
		refuses(t, x, p, 0, nil, api.Fault{Why: api.ErrFault})
		// A pass takes all of these out, the next one finds nothing more.
		long := slices.Insert(slices.Clone(want), n-1, "mkdir(/c)")
		long = append([]string{"rmdir(/c)", "mkdir(/a)", "rmdir(/a)"}, long...)
		for i, s := range long {
			long[i] = renamed(s, 3, n)
		}
		q := program(t, x, append(long, "rmdir(/b)", "unlink(/c)")...)
		least, runs, err := shrink.Shrink(x, q, defect, nil)
		if err != nil || !same(least, p) || runs < 1+2*n || runs > len(q)*(len(q)+1)+1 {
			t.Errorf("defect %d: %+v, %d runs, %v", defect, least, runs, err)
		}
	}
}

// renamed is a step's line with so many others ahead, and one more ahead of the last.
func renamed(s string, by, n int) string {
	for i := n - 1; i >= 0; i-- {
		to := i + by
		if i == n-1 {
			to++
		}
		s = strings.ReplaceAll(s, "r"+string(rune('0'+i)), "R"+string(rune('0'+to)))
	}
	return strings.ReplaceAll(s, "R", "r")
}

// TestLastFirst: P23.1, of steps of which each would do the last one goes.
func TestLastFirst(t *testing.T) {
	x := sample(t)
	p := program(t, x, "r0 = open(/a, 11)", "r1 = open(/a, 11)", "r2 = open(/b, 11)", "r3 = open(/c, 11)", "r4 = dup2(0, 1)")
	// All five are run without the last one, and so on: dup2 stays; /c, /b go; what is left is asked once more.
	shrinks(t, p, api.DefectDup, nil, 1+5+3, "r0 = open(/a, 11)", "r1 = open(/a, 11)", "r2 = dup2(0, 1)")
	q := program(t, x, "r0 = fork()", "r1 = open(/a, 11)", "r2 = fork()", "r3 = open(/b, 11)", "r4 = fork()")
	shrinks(t, q, api.DefectFork, nil, 1+5+2, "r0 = open(/a, 11)", "r1 = fork()")
}

// TestPasses: P23.1, what is needed in one pass may not be so in the next one.
func TestPasses(t *testing.T) {
	x := sample(t)
	// Without rmdir /b can't be opened; without mkdir nobody needs rmdir.
	p := program(t, x, "mkdir(/b)", "rmdir(/b)", "r2 = open(/a, 11)", "r3 = open(/b, 11)", "r4 = dup2(r2, r3)")
	shrinks(t, p, api.DefectDup, nil, 1+5+4+3, "r0 = open(/a, 11)", "r1 = open(/b, 11)", "r2 = dup2(r0, r1)")
	// The first pass takes rename and mkdir out, the second one rmdir.
	q := program(t, x, "mkdir(/b)", "rename(/b, /c)", "rmdir(/c)", "r3 = open(/c, 27)", "r4 = fork()")
	shrinks(t, q, api.DefectFork, nil, 1+5+3+2, "r0 = open(/c, 27)", "r1 = fork()")
}

// TestSameFault: P23.1, P23.2, a step without which another rule is broken stays.
func TestSameFault(t *testing.T) {
	x := sample(t)
	l := []string{"r0 = open(/a, 11)", "pipe(two)", "r2 = dup2(0, 2)"}
	p := program(t, x, l...)
	both := api.DefectDup | api.DefectWriter
	if fault(t, x, p, both, nil) != 4 || fault(t, x, p[:2], both, nil) != 3 || fault(t, x, p[1:2], both, nil) != 3 {
		t.Fatal("other faults")
	}
	shrinks(t, p, both, nil, 4, l...)
	q := program(t, x, "r0 = getpid()", "r1 = open(/a, 11)", "mkdir(/b)", "pipe(two)", "r4 = dup2(0, 2)", "r5 = getpid()")
	shrinks(t, q, both, nil, 1+6+3, l...)
}

// TestReferences: who named a step that is gone names the first special value, and the fault must be there with that.
func TestReferences(t *testing.T) {
	x := sample(t)
	p := program(t, x, "r0 = getpid()", "r1 = open(/a, 11)", "r2 = open(/b, 11)", "r3 = dup2(r1, r0)")
	// Without getpid it is dup2(0, 5), where nothing is replaced.
	shrinks(t, p, api.DefectDup, nil, 5, "r0 = getpid()", "r1 = open(/a, 11)", "r2 = open(/b, 11)", "r3 = dup2(r1, r0)")
	q := program(t, x, "r0 = getpid()", "r1 = open(/a, 11)", "r2 = dup2(r1, r0)", "r3 = fork()", "close(r0)")
	shrinks(t, q, api.DefectFork, nil, 1+5+2, "r0 = open(/a, 11)", "r1 = fork()")
	r := program(t, x, "r0 = fork()", "kill(r0)", "r2 = open(/a, 11)", "pipe(&{r2, 1})", "wait(&r0)")
	shrinks(t, r, api.DefectWriter, nil, 1+5+1, "pipe(&{5, 1})")
}

// TestPicks: the picks tell which process comes first, in all runs.
func TestPicks(t *testing.T) {
	x := sample(t)
	// Process 1 closes what dup2 replaces, if it is the one that made /a; process 2 has nothing there.
	l := []string{"r0 = fork()", "r1 = getpid()", "r2 = open(/a, 27)", "r3 = open(/b, 11)", "r4 = dup2(0, r1)"}
	p := program(t, x, l...)
	second := []int{0, 1, 1, 1, 1}
	refuses(t, x, p, api.DefectDup, second, api.Fault{Why: api.ErrFault})
	refuses(t, x, p, api.DefectDup, []int{0, -1, 3, -1, -3}, api.Fault{Why: api.ErrFault})
	for _, picks := range [][]int{nil, {0}, {0, 0, 0, 0, 0, 1}, {0, 2, 4, -2}} {
		shrinks(t, p, api.DefectDup, picks, 1+5+4, "r0 = getpid()", "r1 = open(/a, 27)", "r2 = open(/b, 11)", "r3 = dup2(0, r0)")
	}
	// Where process 2 must come first the fork stays.
	q := program(t, x, "r0 = fork()", "r1 = getpid()", "r2 = open(/a, 27)", "r3 = open(/b, 11)", "r4 = open(/c, 11)", "r5 = dup2(0, r1)", "r6 = getpid()")
	first := []int{1, 1, 1, 1, 1, 1}
	if fault(t, x, q, api.DefectDup, first) != 4 {
		t.Fatal("no fault")
	}
	least, _, err := shrink.Shrink(x, q, api.DefectDup, first)
	if err != nil || !shrink.Least(x, least, api.DefectDup, first) || len(least) >= len(q) {
		t.Error(least, err)
	}
}

// TestDefects: bits that are none play no part.
func TestDefects(t *testing.T) {
	x := sample(t)
	p := program(t, x, "r0 = open(/a, 11)", "r1 = getpid()", "r2 = fork()")
	for _, defects := range []int{16, 16 | 64, 16 | 1<<40, -1 << 4, -1} {
		shrinks(t, p, defects, nil, 1+3+2, "r0 = open(/a, 11)", "r1 = fork()")
	}
	for _, defects := range []int{0, 64, -64, 47, 1 << 62} {
		refuses(t, x, p, defects, nil, api.Fault{Why: api.ErrFault})
	}
}

// TestLong: as many steps as there may be.
func TestLong(t *testing.T) {
	x := sample(t)
	l := slices.Repeat([]string{"mkdir(/c)", "rmdir(/c)"}, 31)
	p := program(t, x, slices.Concat([]string{"r0 = open(/a, 11)"}, l, []string{"r63 = fork()"})...)
	shrinks(t, p, api.DefectFork, nil, 1+64+2, "r0 = open(/a, 11)", "r1 = fork()")
	if len(p) != api.MaxCalls {
		t.Error(len(p))
	}
}
