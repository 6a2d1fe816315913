package text_test

import (
	"errors"
	"fmt"
	"reflect"
	"strings"
	"testing"

	"dredger/api"
	"dredger/prog"
	"dredger/text"
	"dredger/types"
)

// numbers is a source of the same numbers each time.
type numbers uint64

func (n *numbers) next(below int) int {
	*n = *n*6364136223846793005 + 1442695040888963407
	return int(uint64(*n)>>33) % below
}

// pick is one of a list.
func pick[T any](n *numbers, list ...T) T { return list[n.next(len(list))] }

func value(v int) api.Arg           { return api.Arg{Kind: api.ArgValue, Value: v} }
func ref(i int) api.Arg             { return api.Arg{Kind: api.ArgRef, Value: i} }
func ptr(kids ...api.Arg) api.Arg   { return api.Arg{Kind: api.ArgPtr, Kids: kids} }
func group(kids ...api.Arg) api.Arg { return api.Arg{Kind: api.ArgGroup, Kids: kids} }
func part(i int, kid api.Arg) api.Arg {
	return api.Arg{Kind: api.ArgUnion, Value: i, Kids: []api.Arg{kid}}
}
func data(s string) api.Arg { return api.Arg{Kind: api.ArgData, Bytes: []byte(s)} }

func step(call int, args ...api.Arg) api.Step { return api.Step{Call: call, Args: args} }

const description = `
resource fd[int32]: -1, 0
resource pid[int16]: 7
flags bits = 1, 2, 4
struct pair { n len[d, int16], d data[0, 4], r fd }
union any { t text["/a", ""], p pair, l array[fd, 0, 3], i int64, u low }
union low { a pair, b int8 }
call make(1)() fd
call fork(2)() pid
call plain(3)(i int8, c const[-2, int16], f flags[bits, int32], r fd, p pid)
call in(63)(n len[p, int32], p ptr[in, any])
call open(0)(p ptr[in, data[0, 64]], f int8) fd
call a_$9(9)()
`

// Places of the calls.
const (
	cMake = iota
	cFork
	cPlain
	cIn
	cOpen
	cLast
)

func sample(t *testing.T) api.Table {
	t.Helper()
	x, e := types.Compile(description)
	if e != nil {
		t.Fatal(e)
	}
	return x
}

func right() api.Program {
	return api.Program{
		step(cMake), step(cFork),
		step(cPlain, value(255), value(-2), value(5), ref(0), ref(1)),
		step(cIn, value(8), ptr(part(1, group(value(2), data("\x00\xff"), ref(0))))),
		step(cLast),
		step(cIn, value(0), ptr()),
		step(cOpen, ptr(data("/a\x00")), value(9)),
		step(cIn, value(8), ptr(part(2, group(ref(6), value(-1))))),
		step(cIn, value(0), ptr(part(2, group()))),
		step(cIn, value(3), ptr(part(0, data("/a")))),
		step(cIn, value(1), ptr(part(0, data("")))),
		step(cIn, value(6), ptr(part(4, part(0, group(value(0), data(""), value(0)))))),
		step(cPlain, value(0), value(-2), value(0), value(-1), value(7)),
	}
}

const rightText = `r0 = make()
r1 = fork()
plain(255, -2, 5, r0, r1)
in(8, &@1 {2, "00ff", r0})
a_$9()
in(0, nil)
r6 = open(&"2f6100", 9)
in(8, &@2 {r6, -1})
in(0, &@2 {})
in(3, &@0 "2f61")
in(1, &@0 "")
in(6, &@4 @0 {0, "", 0})
plain(0, -2, 0, -1, 7)
`

// trimArgs is arguments all of whose empty lists are nil, in memory of their own.
func trimArgs(l []api.Arg) (out []api.Arg) {
	for _, a := range l {
		out = append(out, api.Arg{Kind: a.Kind, Value: a.Value, Kids: trimArgs(a.Kids), Bytes: append([]byte(nil), a.Bytes...)})
	}
	return out
}

// trim is likewise of a program.
func trim(p api.Program) (out api.Program) {
	for _, s := range p {
		out = append(out, api.Step{Call: s.Call, Args: trimArgs(s.Args)})
	}
	return out
}

// reads asks for the program of a text.
func reads(t *testing.T, x api.Table, s string, want api.Program) {
	t.Helper()
	p, e := text.Parse(x, s)
	if e != nil || !reflect.DeepEqual(trim(p), trim(want)) {
		t.Errorf("%.200q: %+v, %v, want %+v", s, p, e, want)
	}
}

// refuses asks for a text's fault: a value, with that place, in which errors.Is finds that number alone.
func refuses(t *testing.T, x api.Table, s string, at int, why api.Errno) {
	t.Helper()
	p, e := text.Parse(x, s)
	if f, ok := e.(api.Fault); !ok || f != (api.Fault{At: at, Why: why}) || len(p) != 0 {
		t.Errorf("%.200q: %+v, %v, want %v at %d", s, p, e, why, at)
		return
	}
	var f api.Fault
	if !errors.As(e, &f) || f.At != at {
		t.Errorf("%.200q: errors.As finds %v", s, f)
	}
	for n := range api.Errno(240) {
		if errors.Is(e, n) != (n == why) {
			t.Errorf("%.200q: errors.Is of %v is %v", s, n, errors.Is(e, n))
		}
	}
}

// prints asks for a program's text.
func prints(t *testing.T, x api.Table, p api.Program, want string, why api.Errno) {
	t.Helper()
	before := trim(p)
	if s, e := text.Print(x, p); s != want || e != why {
		t.Errorf("%+v: %q, %v, want %q, %v", p, s, e, want, why)
	}
	if !reflect.DeepEqual(trim(p), before) {
		t.Errorf("%+v was %+v", p, before)
	}
}

func TestPrint(t *testing.T) {
	x := sample(t)
	prints(t, x, right(), rightText, api.OK)
	prints(t, x, nil, "", api.OK)
	prints(t, api.Table{}, api.Program{}, "", api.OK)
	prints(t, x, api.Program{step(cOpen, ptr(data("/a\x00")), value(9))}, "r0 = open(&\"2f6100\", 9)\n", api.OK)
	all := ""
	for c := range 64 {
		all += fmt.Sprintf("%02x", c*4+c/16)
	}
	p := api.Program{step(cOpen, ptr(data("")), value(0))}
	for c := range 64 {
		p[0].Args[0].Kids[0].Bytes = append(p[0].Args[0].Kids[0].Bytes, byte(c*4+c/16))
	}
	prints(t, x, p, "r0 = open(&\""+all+"\", 0)\n", api.OK)
}

// TestPrintAnyTable: values and names of tables that are made by hand.
func TestPrintAnyTable(t *testing.T) {
	x := api.Table{
		Types: []api.Type{{Kind: api.TypeInt, Size: 1, Lo: -1 << 63, Hi: 1<<63 - 1}},
		Calls: []api.Call{{Name: "B c\n", Args: []int{0}, Names: []string{""}}, {Ret: "("}},
	}
	prints(t, x, api.Program{step(0, value(-1<<63)), step(0, value(1<<63-1)), step(1)}, "B c\n(-9223372036854775808)\nB c\n(9223372036854775807)\nr2 = ()\n", api.OK)
}

// TestPrintRefuses: what is no program of the table has no text, but prog.Check's number.
func TestPrintRefuses(t *testing.T) {
	x := sample(t)
	prints(t, api.Table{Calls: []api.Call{{Number: 64}}}, nil, "", api.ErrArg)
	prints(t, x, make(api.Program, 65), "", api.ErrFull)
	prints(t, x, api.Program{step(6)}, "", api.ErrCall)
	prints(t, x, api.Program{step(-1)}, "", api.ErrCall)
	prints(t, x, api.Program{step(cMake, value(0))}, "", api.ErrCount)
	prints(t, x, api.Program{step(cMake), step(cIn, value(0), value(0))}, "", api.ErrKind)
	prints(t, x, api.Program{step(cIn, value(0), ptr(ptr(), ptr()))}, "", api.ErrCount)
	prints(t, x, api.Program{step(cIn, value(0), ptr(part(5, ptr())))}, "", api.ErrValue)
	prints(t, x, api.Program{step(cIn, value(4), ptr(part(2, group(ref(0)))))}, "", api.ErrRef)
	prints(t, x, api.Program{step(cIn, value(1), ptr())}, "", api.ErrLen)
}

func TestParse(t *testing.T) {
	x := sample(t)
	reads(t, x, rightText, right())
	reads(t, x, strings.TrimSuffix(rightText, "\n"), right())
	reads(t, x, "\n"+strings.ReplaceAll(rightText, "\n", "\n # r0 = \"\x00\xff\n\n  \n"), right())
	reads(t, x, strings.ReplaceAll(strings.ReplaceAll(rightText, "@1 {", "@1{"), ", ", ","), right())
	for _, s := range []string{"", "\n", "\n\n", "  ", " \n", "#", "  # make", "#\n#", "# \t\r\n  "} {
		reads(t, x, s, nil)
		reads(t, api.Table{}, s, nil)
	}
}

// TestNothing: lines that say nothing do so at the beginning of a line alone, and of blanks alone.
func TestNothing(t *testing.T) {
	x := sample(t)
	for _, s := range []string{"a_$9() # no", "a_$9()#", "a_$9( # no\n)", "\t", "\r", "\x00", "\t#", "\v", "\u00a0", "a_$9()\r\n", "a_$9()\t", "\ta_$9()", "a_$9(\t)", ";"} {
		refuses(t, x, s, 0, api.ErrText)
	}
}

// TestPlace: a fault stands at the first byte of its line, whatever blanks are there, and whatever lines say nothing.
func TestPlace(t *testing.T) {
	x := sample(t)
	for _, ahead := range []string{"", "\n", "r0 = make()\n", "# é\n", "  \n r0=make ( ) \n\n", "a_$9()\na_$9()\n"} {
		for _, blanks := range []string{"", " ", "    "} {
			at := len(ahead)
			refuses(t, x, ahead+blanks+"wrong()", at, api.ErrText)
			refuses(t, x, ahead+blanks+"wrong()\n(\n", at, api.ErrText)
			refuses(t, x, ahead+blanks+"a_$9("+strings.Repeat("&", 401)+"\n(\n", at, api.ErrDeep)
			refuses(t, x, ahead+blanks+"in(1, nil)", at, api.ErrLen)
			refuses(t, x, ahead+blanks+"in(1, nil)\n in(2, nil)\n", at, api.ErrLen)
			refuses(t, x, ahead+blanks+"in(1, nil)\n\n(", at+len(blanks)+len("in(1, nil)\n\n"), api.ErrText)
		}
	}
}

// TestCheckFaults: when all lines are read, what prog.Check tells.
func TestCheckFaults(t *testing.T) {
	x := sample(t)
	const ahead = "# one\nr0 = make()\n"
	for s, why := range map[string]api.Errno{
		"plain()": api.ErrCount, "a_$9(1)": api.ErrCount, "in(0, nil, 0)": api.ErrCount, "in(1)": api.ErrCount, "in(0, &@1 {})": api.ErrCount,
		"in(0, 0)": api.ErrKind, "in(nil, nil)": api.ErrKind, "in(r0, nil)": api.ErrKind, "in(0, &{})": api.ErrKind, "in(0, &&0)": api.ErrKind, "in(0, \"\")": api.ErrKind, "in(0, &@3 r0)": api.ErrKind,
		"in(0, &@5 0)": api.ErrValue, "in(0, &@999 {nil, nil})": api.ErrValue, "in(3, &@0 \"2f62\")": api.ErrValue, "plain(256, -2, 0, 0, 7)": api.ErrValue, "plain(0, -2, 8, 0, 7)": api.ErrValue, "plain(0, 2, 0, 0, 7)": api.ErrValue,
		"plain(0, -2, 0, r1, 7)": api.ErrRef, "plain(0, -2, 0, r2, 7)": api.ErrRef, "plain(0, -2, 0, r999, 7)": api.ErrRef, "plain(0, -2, 0, r0, r0)": api.ErrRef,
		"in(7, nil)": api.ErrLen, "in(8, &@1 {0, \"00ff\", r0})": api.ErrLen, "in(4611686018427387904, nil)": api.ErrLen, "in(-4611686018427387904, nil)": api.ErrLen,
	} {
		refuses(t, x, ahead+s+"\n", len(ahead), why)
		refuses(t, x, ahead+"\n "+s+"\na_$9()\n#", len(ahead)+1, why)
		refuses(t, x, ahead+s+"\n\na_$9", len(ahead)+len(s)+2, api.ErrText)
	}
}

// TestFull: MaxCalls steps are fine. More of them are told when all lines are read, at the first one's line.
func TestFull(t *testing.T) {
	x := sample(t)
	var p api.Program
	for range 64 {
		p = append(p, step(cLast))
	}
	reads(t, x, strings.Repeat("a_$9()\n", 64), p)
	reads(t, x, strings.Repeat("#\na_$9()\n\n", 64), p)
	for _, n := range []int{65, 66, 999, 1500} {
		s := strings.Repeat("a_$9()\n", n)
		refuses(t, x, s, 0, api.ErrFull)
		refuses(t, x, s+"a_$9", len(s), api.ErrText)
		refuses(t, x, s+"a_$9("+strings.Repeat("{", 401), len(s), api.ErrDeep)
		refuses(t, x, s+"in(1)", 0, api.ErrFull)
		refuses(t, x, "#\n"+s, 2, api.ErrFull)
	}
}

// TestTable: a table that may not be is told ahead of all else.
func TestTable(t *testing.T) {
	for _, x := range []api.Table{
		{Calls: []api.Call{{Name: "f", Number: 64}}},
		{Calls: make([]api.Call, 65)},
		{Types: []api.Type{{}}},
		{Calls: []api.Call{{Name: "f", Args: []int{0}, Names: []string{"a"}}}},
	} {
		for _, s := range []string{"", "f()", "\n\n(", "f(" + strings.Repeat("&", 500)} {
			refuses(t, x, s, 0, api.ErrArg)
		}
	}
}

// TestResults: a result is named just where one is made, with the step's place.
func TestResults(t *testing.T) {
	x := sample(t)
	for _, s := range []string{"r0 = make()", "r0=make()", " r0  =  make()", "r0 =make()", "r0= make()"} {
		reads(t, x, s, api.Program{step(cMake)})
	}
	for _, s := range []string{
		"make()", "r1 = make()", "r00 = make()", "r = make()", "r-0 = make()", "r 0 = make()", "0 = make()", "r0 make()", "r0 = = make()", "r0 == make()", "= make()", "R0 = make()", "rr0 = make()", "r0 = r0 = make()", "r0, = make()", "r0 = ", "r0", "r0 =", "r0 = ()", "r4294967296 = make()", "r18446744073709551616 = make()",
		"r0 = a_$9()", "r0 = plain(255, -2, 5, 0, 7)", "r0 = none()", "none()",
	} {
		refuses(t, x, s, 0, api.ErrText)
	}
	steps, p := "", api.Program{}
	for i := range 64 {
		line := fmt.Sprintf("r%d = make()\n", i)
		for _, k := range []int{i - 1, i + 1, i + 10, 1000 + i} {
			refuses(t, x, steps+strings.Replace(line, fmt.Sprint(i), fmt.Sprint(k), 1), len(steps), api.ErrText)
		}
		steps, p = steps+line, append(p, step(cMake))
		reads(t, x, steps, p)
	}
	nothing := strings.Repeat("a_$9()\n", 999)
	refuses(t, x, nothing+"r999 = make()\n", 0, api.ErrFull)
	refuses(t, x, nothing+"a_$9()\nr1000 = make()\n", len(nothing)+len("a_$9()\n"), api.ErrText)
}

// TestAheadOfArguments: what is wrong with a call is told ahead of what stands too deep in its arguments.
func TestAheadOfArguments(t *testing.T) {
	x := sample(t)
	deep := "(" + strings.Repeat("{", 401)
	for _, head := range []string{"none", "make", "r1 = make", "r0 = a_$9", "r0 = none", "r00 = make", "9", ""} {
		refuses(t, x, head+deep, 0, api.ErrText)
	}
	refuses(t, x, "r0 = make"+deep, 0, api.ErrDeep)
	refuses(t, x, "a_$9"+deep, 0, api.ErrDeep)
}

// TestNames: names are those of a description (12), and the first call of a name counts.
func TestNames(t *testing.T) {
	names := []string{"r0", "r", "nil", "_", "$", "a$", "9a", "A", "", "a b", "é", "a-b", "f", "f", "r12", "n0_$z", "f()", "#"}
	var x api.Table
	for _, name := range names {
		x.Calls = append(x.Calls, api.Call{Name: name})
	}
	x.Calls[13].Ret = "fd"
	for i, name := range names {
		switch name {
		case "r0", "r", "nil", "_", "a$", "r12", "n0_$z":
			reads(t, x, name+"()", api.Program{step(i)})
			reads(t, x, " "+name+"  ( ) ", api.Program{step(i)})
			refuses(t, x, "r0 = "+name+"()", 0, api.ErrText)
		case "f":
			reads(t, x, name+"()", api.Program{step(12)})
			refuses(t, x, "r0 = "+name+"()", 0, api.ErrText)
		case "#":
			reads(t, x, name+"()", nil)
		default:
			refuses(t, x, name+"()", 0, api.ErrText)
		}
	}
	for i := range x.Calls {
		x.Calls[i].Ret = "fd"
	}
	for i, name := range names {
		switch name {
		case "r0", "r", "nil", "_", "a$", "r12", "n0_$z":
			reads(t, x, "r0 = "+name+"()", api.Program{step(i)})
			refuses(t, x, name+"()", 0, api.ErrText)
		case "f":
			reads(t, x, "r0="+name+"()", api.Program{step(12)})
		case "#":
			refuses(t, x, "r0 = "+name+"()", 0, api.ErrText)
		default:
			refuses(t, x, "r0 = "+name+"()", 0, api.ErrText)
		}
	}
	for _, s := range []string{"f", "f(", "f)", "f()x", "f()()", "f(),", "ff()", "f f()", "f$()", "f()\x00", "f(,)", "F()"} {
		refuses(t, api.Table{Calls: []api.Call{{Name: "f"}}}, s, 0, api.ErrText)
	}
}

// TestBytes: any byte, at the beginning of a line, within a name, behind one, among arguments.
func TestBytes(t *testing.T) {
	x := api.Table{Calls: []api.Call{{Name: "ab"}}}
	for c := range 256 {
		for _, s := range []string{string([]byte{byte(c)}) + "ab()", "a" + string([]byte{byte(c)}) + "b()", "ab" + string([]byte{byte(c)}) + "()", "ab(" + string([]byte{byte(c)}) + ")", "ab()" + string([]byte{byte(c)})} {
			want, why := api.Program{step(0)}, error(nil)
			switch {
			case c == ' ' && !strings.Contains(s, "a b"):
			case c == '#' && s[0] == '#':
				want = nil
			case c == '\n' && (s[0] == '\n' || s == "ab()\n"):
			default:
				want, why = nil, api.ErrText
			}
			if s == "ab(0)" || len(s) == 5 && s[:3] == "ab(" && s[3] >= '0' && s[3] <= '9' {
				why = api.ErrCount
			}
			p, e := text.Parse(x, s)
			if !prog.Same(p, want) || !errors.Is(e, why) {
				t.Errorf("%q: %+v, %v, want %v", s, p, e, why)
			}
		}
	}
}
