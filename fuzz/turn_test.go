package fuzz_test

import (
	"fmt"
	"math"
	"slices"
	"strings"
	"testing"

	"dredger/api"
	"dredger/fuzz"
)

// TestDrawn: a program that is drawn, and what is kept of it.
func TestDrawn(t *testing.T) {
	l := loop(t, newDisk(t, 60), small, 0)
	makes(t, l, doubled(), []int{1, 2, 3}, "new p00")
	want := api.Entry{Key: "p00", Program: doubledText, Points: []int{0, 384}}
	has(t, l, want)
	makes(t, l, doubled(), nil, "nothing")
	makes(t, l, opened(), nil, "nothing")
	has(t, l, want)
	// All points of the run are kept, not just the new ones.
	makes(t, l, longer(), nil, "new p01")
	next := api.Entry{Key: "p01", Program: strings.Replace(doubledText, "dup2", "getpid()\ndup2", 1), Points: []int{0, 384, 1216}}
	has(t, l, want, next)
}

// TestTenSteps: a drawn program has at most 10 steps.
func TestTenSteps(t *testing.T) {
	for draw, steps := range map[int]int{0: 1, 8: 9, 9: 10, 10: 1, 63: 4, -1: 6} {
		l := loop(t, newDisk(t, 60), "call getpid(19)()", 0)
		does(t, l, []int{0, draw}, nil, "new p00")
		has(t, l, api.Entry{Key: "p00", Program: strings.Repeat("getpid()\n", steps), Points: []int{1216}})
	}
}

// TestNextIsTaken: the first draw is taken, though there is nothing that could be mutated.
func TestNextIsTaken(t *testing.T) {
	for _, kind := range []int{0, 1, 2, 3, 4, -1, math.MaxInt} {
		l := loop(t, newDisk(t, 60), small, 0)
		does(t, l, append([]int{kind}, opened().draws(t, l)[1:]...), nil, "new p00")
		has(t, l, api.Entry{Key: "p00", Program: openedText, Points: []int{0}})
	}
}

// kept is texts of programs that a corpus has without points: whatever is run is new.
type kept []string

// makes asks for the program that a turn is about.
func (k kept) makes(t *testing.T, draws []int, want string) {
	t.Helper()
	var all []api.Entry
	for i, s := range k {
		all = append(all, api.Entry{Key: fmt.Sprintf("a%d", i), Program: s})
	}
	l := loop(t, holding(t, 200, all...), small, 0)
	does(t, l, draws, nil, "new p00")
	if got := l.Entries(); len(got) != len(all)+1 || got[len(all)].Program != want {
		t.Errorf("%v: %+v, want %q", draws, got, want)
	}
}

// TestMutated: two programs, by a draw each, and the mutation.
func TestMutated(t *testing.T) {
	const g, o = "getpid()\n", openedText
	k := kept{g, o}
	for _, kind := range []int{1, 2, 3, 5, -1} {
		// Splice: the second one stands ahead of the first, or behind it.
		k.makes(t, []int{kind, 0, 1, 3, 1}, g+"r1"+o[2:])
		k.makes(t, []int{kind, 1, 0, 3, 1}, o+g)
		k.makes(t, []int{kind, 1, 0, 3, 0}, g+"r1"+o[2:])
		k.makes(t, []int{kind, 2, 2, 3, 1}, g+g)
		k.makes(t, []int{kind, 3, -1, 3, 1}, o+"r1"+o[2:])
		// Insert, by a choice that weighs both programs: 1, 1 and 3, 3 for those that stand first.
		k.makes(t, []int{kind, 0, 0, 0, 0, 3}, "dup2(0, 0)\n"+g)
		k.makes(t, []int{kind, 0, 0, 0, 0, 4}, g+g)
		k.makes(t, []int{kind, 0, 0, 0, 0, 2, 1, 1}, "r0 = open(&\"2f62\", 11)\n"+g)
		// Change.
		k.makes(t, []int{kind, 1, 0, 2, 0, 0, 1, 1}, "r0 = open(&\"2f62\", 11)\n")
	}
	// A draw that says so draws a program, whatever there is.
	for _, kind := range []int{0, 4, -4} {
		k.makes(t, []int{kind, 1, 0, 1, 1, 0}, "r0 = open(&\"2f62\", 11)\nr1 = open(nil, 11)\n")
	}
	k.makes(t, nil, "r0 = open(nil, 11)\n")
}

// TestSixteenSteps: a mutated program has at most 16 steps, or as many as it had.
func TestSixteenSteps(t *testing.T) {
	for had := range 20 {
		k := kept{strings.Repeat("getpid()\n", had), openedText}
		for _, draws := range [][]int{{1, 0, 1, 3, had}, {1, 0, 1, 0, had, 0, 1, 0}} {
			want := strings.Repeat("getpid()\n", had)
			if had < 16 {
				want += fmt.Sprintf("r%d = open(&\"2f61\", 11)\n", had)
			}
			k.makes(t, draws, want)
		}
	}
	k := kept{strings.Repeat("getpid()\n", 12), strings.Repeat("dup2(0, 0)\n", 7)}
	k.makes(t, []int{1, 0, 1, 3, 2}, strings.Repeat("getpid()\n", 2)+strings.Repeat("dup2(0, 0)\n", 4)+strings.Repeat("getpid()\n", 10))
}

// TestWhichPrograms: those of faults, and texts that are none of the table's programs, play no part.
func TestWhichPrograms(t *testing.T) {
	l := loop(t, holding(t, 200,
		api.Entry{Key: "a", Program: "fork()\n"},
		api.Entry{Key: "b", Program: openedText, Fault: 2},
		api.Entry{Key: "c", Program: "getpid()"},
		api.Entry{Key: "d", Program: "getpid(1)\n"},
		api.Entry{Key: "p01", Program: " # \n dup2 ( 0 ,0)"},
		api.Entry{Key: "z", Program: "r0 = open(&\"2f63\", 11)\n"},
	), small, 0)
	// There are two, c and p01: the second one, as it is but for a step of the first behind.
	does(t, l, []int{1, 1, 0, 3, 1}, nil, "new p00")
	got := l.Entries()
	if i := slices.IndexFunc(got, func(e api.Entry) bool { return e.Key == "p00" }); i != 4 || !sameEntry(got[i], api.Entry{Key: "p00", Program: "dup2(0, 0)\ngetpid()\n", Points: []int{393, 1216}}) {
		t.Errorf("%+v", got)
	}
	// Alone, they leave nothing to mutate.
	l = loop(t, holding(t, 200, api.Entry{Key: "b", Program: openedText, Fault: 2}, api.Entry{Key: "d", Program: "x"}), small, 0)
	does(t, l, append([]int{1}, getpid().draws(t, l)[1:]...), nil, "new p00")
}

// TestWhichPoints: those of programs that can't be mutated count, those of faults do not.
func TestWhichPoints(t *testing.T) {
	l := loop(t, holding(t, 200, api.Entry{Key: "a", Program: "other()\n", Points: []int{384, 1216}}, api.Entry{Key: "b", Program: openedText, Points: []int{0}, Fault: 2}), small, 0)
	makes(t, l, getpid(), nil, "nothing")
	makes(t, l, opened(), nil, "new p00")
	makes(t, l, doubled(), nil, "nothing")
	makes(t, l, drawn{{0, 0}}, nil, "new p01")
	if got := keyed(l.Entries()); got != "a b p00 p01" {
		t.Error(got)
	}
}

// TestKeys: the least number that no entry has, of a fault or of a program.
func TestKeys(t *testing.T) {
	for _, c := range [][]string{
		{"p00"}, {"p01", "p00"}, {"p02", "p00", "p01"}, {"p00", "p0", "p1", "p000", "q00"}, {"p10", "p00", "p01", "p02", "p03", "p04", "p05", "p06", "p07", "p08", "p09", "p11"},
	} {
		var all []api.Entry
		for i, key := range c[1:] {
			all = append(all, api.Entry{Key: key, Fault: i % 2})
		}
		l := loop(t, holding(t, 200, all...), small, 0)
		makes(t, l, getpid(), nil, "new "+c[0])
		if slices.Sort(c); keyed(l.Entries()) != strings.Join(c, " ") {
			t.Error(keyed(l.Entries()))
		}
	}
}

// TestFault: the first of a fault is kept, as short as it gets.
func TestFault(t *testing.T) {
	l := loop(t, newDisk(t, 60), small, api.DefectDup)
	makes(t, l, getpid(), nil, "new p00")
	makes(t, l, longer(), []int{7, -2, 4}, "fault 4")
	want := []api.Entry{{Key: "f4", Program: doubledText, Fault: 4, Picks: []int{3, 2, 0}}, {Key: "p00", Program: "getpid()\n", Points: []int{1216}}}
	has(t, l, want...)
	makes(t, l, longer(), nil, "old 4")
	makes(t, l, doubled(), []int{1}, "old 4")
	has(t, l, want...)
	// Its points are none of the corpus.
	makes(t, l, opened(), nil, "new p01")
	// A key that is taken is taken, whatever stands there.
	other := api.Entry{Key: "f4", Program: "zz", Points: []int{3}}
	l = loop(t, holding(t, 60, other), small, api.DefectDup)
	makes(t, l, doubled(), nil, "old 4")
	has(t, l, other)
	l = loop(t, holding(t, 60, api.Entry{Key: "f", Fault: 4}, api.Entry{Key: "f04", Fault: 4}, api.Entry{Key: "f40", Fault: 4}), small, api.DefectDup)
	makes(t, l, doubled(), nil, "fault 4")
}

// TestSkip: programs that can't be run are left, and nothing is kept.
func TestSkip(t *testing.T) {
	const data = "ptr[in, data[64]]"
	l := loop(t, newDisk(t, 60), "call f(3)(a "+data+", b "+data+", c "+data+", d "+data+", e "+data+", f "+data+")\ncall getpid(19)()", 63)
	steps := func(n int) []int {
		draws := []int{0, n - 1}
		for range n {
			draws = append(draws, 0)
			for range 6 {
				draws = append(draws, slices.Repeat([]int{1}, 66)...)
			}
		}
		return draws
	}
	image := l.Disk().Image()
	does(t, l, steps(6), nil, "skip") // 2304 bytes
	does(t, l, steps(10), []int{1, 2}, "skip")
	has(t, l)
	if !sameImage(image, l.Disk().Image()) {
		t.Error("the disk was written to")
	}
	does(t, l, []int{0, 0, 1}, nil, "new p00")
	// What has too many references lies within the memory, but can't be executed.
	refs := "ptr[in, g]"
	l = loop(t, newDisk(t, 60), "resource r[int8]: 0\nstruct g { a array[array[r, 8], 8], b array[array[r, 8], 8], c array[array[r, 8], 8] }\ncall one(19)() r\ncall f(20)(a "+refs+", b "+refs+", c "+refs+")", 63)
	does(t, l, slices.Concat([]int{0, 1, 0, 1}, slices.Repeat([]int{2}, 1000)), nil, "skip")
	does(t, l, slices.Concat([]int{0, 1, 0, 1, 0, 0}, slices.Repeat([]int{2}, 1000)), nil, "new p00")
}

// full asks for a turn that finds no room, and changes nothing.
func full(t *testing.T, l *fuzz.Loop, draws []int) {
	t.Helper()
	was, image := l.Entries(), l.Disk().Image()
	does(t, l, draws, nil, "full")
	if !sameEntries(l.Entries(), was) || !sameImage(l.Disk().Image(), image) {
		t.Errorf("%+v, it was %+v", l.Entries(), was)
	}
}

// TestNoRoom: a disk that is full, for a program or for a fault.
func TestNoRoom(t *testing.T) {
	l := loop(t, newDisk(t, 4), small, api.DefectDup)
	makes(t, l, slices.Repeat(opened(), 2), nil, "new p00")
	full(t, l, slices.Repeat(getpid(), 6).draws(t, l))
	full(t, l, doubled().draws(t, l))
	makes(t, l, opened(), nil, "nothing")
	makes(t, l, getpid(), nil, "new p01")
	l = loop(t, newDisk(t, 6), small, api.DefectDup)
	full(t, l, slices.Repeat(opened(), 10).draws(t, l))
	makes(t, l, doubled(), nil, "fault 4")
}

// TestManyEntries: as many as there may be.
func TestManyEntries(t *testing.T) {
	var all []api.Entry
	for i := range api.MaxEntries {
		all = append(all, api.Entry{Key: fmt.Sprintf("p%02d", i), Program: "getpid()\n", Points: []int{1216}})
	}
	l := loop(t, holding(t, 200, all...), small, api.DefectDup)
	full(t, l, opened().draws(t, l))
	full(t, l, doubled().draws(t, l))
	makes(t, l, getpid(), nil, "nothing")
	l = loop(t, holding(t, 200, all[1:]...), small, api.DefectDup)
	makes(t, l, opened(), nil, "new p00")
	full(t, l, doubled().draws(t, l))
	l = loop(t, holding(t, 200, all[:39]...), small, api.DefectDup)
	makes(t, l, doubled(), nil, "fault 4")
	full(t, l, opened().draws(t, l))
	makes(t, l, longer(), nil, "old 4")
}

// TestLongTexts: a program whose text no entry may have.
func TestLongTexts(t *testing.T) {
	steps := func(n int) []int {
		draws := []int{0, n - 1}
		for range n {
			draws = append(append(draws, 0), slices.Repeat([]int{1}, 132)...)
		}
		return draws
	}
	// Each step has 268 bytes.
	l := loop(t, newDisk(t, 200), "call f(3)(a ptr[in, data[64]], b ptr[in, data[64]])", 0)
	full(t, l, steps(10))
	full(t, l, steps(6))
	has(t, l)
	does(t, l, steps(5), nil, "new p00")
	if got := l.Entries(); len(got) != 1 || len(got[0].Program) != 5*268 {
		t.Error(got)
	}
}

// TestPicks: the rests by 4 of the first 40 picks tell how the program is run, and stay with the fault.
func TestPicks(t *testing.T) {
	const description = `
resource fd[int32]: 0
call open(0)(p ptr[in, text["/a", "/b"]], f int8[0, 63]) fd
call dup2(6)(f fd, g fd) fd
call fork(15)()
call getpid(19)() fd
`
	// What is to be changed is the fork, whose call has no arguments: the program is left as it is.
	again := []int{1, 0, 0, 2, 0}
	const two = "fork()\nr1 = getpid()\nr2 = open(&\"2f61\", 27)\nr3 = open(&\"2f62\", 11)\nr4 = dup2(0, r1)\n"
	const one = "r0 = getpid()\nr1 = open(&\"2f61\", 27)\nr2 = open(&\"2f62\", 11)\nr3 = dup2(0, r0)\n"
	start := api.Entry{Key: "a", Program: two}
	for _, c := range []struct{ picks, kept []int }{
		{nil, nil},
		{[]int{0, 0, 0, 0, 0}, []int{0, 0, 0, 0, 0}},
		{[]int{4, -4, 8, math.MinInt, 1 << 40}, []int{0, 0, 0, 0, 0}},
		{[]int{7, 2, -2, 6, -6, -1, math.MaxInt}, []int{3, 2, 2, 2, 2, 3, 3}},
		{slices.Repeat([]int{2}, 39), slices.Repeat([]int{2}, 39)},
		{slices.Repeat([]int{4}, 40), slices.Repeat([]int{0}, 40)},
		{append(slices.Repeat([]int{6}, 40), 3), slices.Repeat([]int{2}, 40)},
		{append(slices.Repeat([]int{6}, 40), slices.Repeat([]int{1}, 1000)...), slices.Repeat([]int{2}, 40)},
	} {
		l := loop(t, holding(t, 60, start), description, api.DefectDup)
		does(t, l, again, c.picks, "fault 4")
		has(t, l, start, api.Entry{Key: "f4", Program: one, Fault: 4, Picks: c.kept})
	}
	// Process 2 goes first, and makes /a.
	for _, picks := range [][]int{{0, 1, 1, 1, 1}, {4, -3, 5, -1, 7}} {
		l := loop(t, holding(t, 60, start), description, api.DefectDup)
		does(t, l, again, picks, "new p00")
	}
}

// TestPicksOfFault: a fault that is not there without the picks is made as short as it gets by these.
func TestPicksOfFault(t *testing.T) {
	const description = `
resource fd[int32]: 0, 1
resource pid[int32]: 9
call open(0)(p ptr[in, text["/a", "/b"]], f const[11, int8]) fd
call close(1)(f fd)
call dup2(6)(f fd, g fd) fd
call fork(15)() pid
call kill(18)(p pid)
call getpid(19)() fd
`
	// Process 1 kills the other one, if it may, and has nothing at 1 when it comes to dup2.
	start := api.Entry{Key: "a", Program: "r0 = fork()\nkill(r0)\nr2 = getpid()\nr3 = open(&\"2f61\", 11)\nr4 = open(&\"2f62\", 11)\nclose(r2)\nr6 = dup2(0, 1)\n"}
	again := []int{1, 0, 0, 2, 0}
	l := loop(t, holding(t, 60, start), description, api.DefectDup)
	does(t, l, again, nil, "new p00")
	l = loop(t, holding(t, 60, start), description, api.DefectDup)
	does(t, l, again, []int{4, 5, -3, 1, 1, 1, 1}, "fault 4")
	has(t, l, start, api.Entry{Key: "f4", Program: "r0 = open(&\"2f61\", 11)\nr1 = open(&\"2f62\", 11)\nr2 = dup2(0, 1)\n", Fault: 4, Picks: []int{0, 1, 1, 1, 1, 1, 1}})
}

// TestThreeProcesses: of three, 4 is the first one, as 0 is, not the second one.
func TestThreeProcesses(t *testing.T) {
	const description = "resource fd[int32]: 0\ncall open(0)(p ptr[in, text[\"/a\", \"/b\"]], f int8[0, 63]) fd\ncall dup2(6)(f fd, g fd) fd\ncall fork(15)()\ncall getpid(19)() fd"
	const three = "fork()\nfork()\nr2 = getpid()\nr3 = open(&\"2f61\", 27)\nr4 = open(&\"2f62\", 11)\nr5 = dup2(0, r2)\n"
	// Process 1 makes a second child ahead of its first one's fork, and then all else, or another one makes /a.
	for first, want := range map[int]string{0: "fault 4", 4: "fault 4", 8: "fault 4", -4: "fault 4", 1: "new p00", 5: "new p00", 2: "new p00", 3: "fault 4", 7: "fault 4", -1: "fault 4", -2: "new p00"} {
		l := loop(t, holding(t, 60, api.Entry{Key: "a", Program: three}), description, api.DefectDup)
		does(t, l, []int{1, 0, 0, 2, 0}, append([]int{0, 0}, slices.Repeat([]int{first}, 6)...), want)
	}
}

// TestFortyPicks: behind those that count the first process goes on.
func TestFortyPicks(t *testing.T) {
	const description = "resource fd[int32]: 0\ncall open(0)(p ptr[in, text[\"/a\", \"/b\"]], f int8[0, 63]) fd\ncall dup2(6)(f fd, g fd) fd\ncall fork(15)()\ncall getpid(19)() fd\ncall close(1)(f int8)"
	for idle, want := range map[int]string{0: "new p00", 36: "new p00", 37: "new p00", 38: "fault 4", 50: "fault 4"} {
		// Process 2 does what it can by the first 40 picks: to be the one that makes /a, it must come to the open ahead of their end.
		s := "fork()\n" + strings.Repeat("close(5)\n", idle)
		s += fmt.Sprintf("r%d = getpid()\nr%d = open(&\"2f61\", 27)\nr%d = open(&\"2f62\", 11)\nr%d = dup2(0, r%d)\n", idle+1, idle+2, idle+3, idle+4, idle+1)
		l := loop(t, holding(t, 60, api.Entry{Key: "a", Program: s}), description, api.DefectDup)
		does(t, l, []int{1, 0, 0, 2, 0}, append([]int{0}, slices.Repeat([]int{1}, 200)...), want)
	}
}
