package text_test

import (
	"fmt"
	"math/big"
	"strings"
	"testing"

	"dredger/api"
	"dredger/text"
)

// wide is a table of calls of one argument: any value, data, a pointer, a list, the result of any step that makes none, and a union of these, of more parts than a text can name.
func wide() api.Table {
	t := api.Table{
		Types: []api.Type{
			{Kind: api.TypeInt, Size: 8, Lo: -1 << 63, Hi: 1<<63 - 1},
			{Kind: api.TypeData, Hi: 64},
			{Kind: api.TypePtr, Size: 8, Dir: api.DirIn, Elems: []int{0}},
			{Kind: api.TypeArray, Hi: 8, Elems: []int{0}},
			{Kind: api.TypeRes, Size: 1, Of: "", Values: []int{0}},
		},
	}
	union := api.Type{Kind: api.TypeUnion, Names: make([]string, 1001)}
	for i := range union.Names {
		union.Elems = append(union.Elems, i%5)
	}
	t.Types = append(t.Types, union)
	for i, name := range []string{"v", "d", "p", "l", "r", "u"} {
		t.Calls = append(t.Calls, api.Call{Name: name, Args: []int{i}, Names: []string{"a"}})
	}
	return t
}

const (
	wValue = iota
	wData
	wPtr
	wList
	wRes
	wUnion
)

// TestNumbers: those from -2^62 to 2^62, in one form each.
func TestNumbers(t *testing.T) {
	x := wide()
	bound := new(big.Int).Lsh(big.NewInt(1), 62)
	for shift := range 70 {
		for d := int64(-2); d <= 2; d++ {
			for _, sign := range []int64{-1, 1} {
				n := new(big.Int).Lsh(big.NewInt(sign), uint(shift))
				n.Add(n, big.NewInt(d))
				if n.CmpAbs(bound) <= 0 {
					reads(t, x, "v("+n.String()+")", api.Program{step(wValue, value(int(n.Int64())))})
				} else {
					refuses(t, x, "v("+n.String()+")", 0, api.ErrText)
				}
			}
		}
	}
	for _, s := range []string{
		"-0", "00", "01", "-01", "-", "--1", "+1", "- 1", "1 2", "1_0", "0x1", "1e3", "1.0", "0b1", "1-", "１", "a", "-a", "0a", "0000", "000000000000000000000000000001", "-00", "1'", " -", "-,1",
		strings.Repeat("9", 1000), "-" + strings.Repeat("9", 1000), "18446744073709551616", "18446744073709551617",
	} {
		refuses(t, x, "v("+s+")", 0, api.ErrText)
	}
}

// TestReferences: a r, and a place from 0 to 999 at once.
func TestReferences(t *testing.T) {
	x := wide()
	head := strings.Repeat("v(0)\n", 63)
	for i := range 1100 {
		s := fmt.Sprint(head, "r(r", i, ")")
		switch {
		case i < 63:
			p, e := text.Parse(x, s)
			if e != nil || len(p) != 64 || len(p[63].Args) != 1 || p[63].Args[0].Kind != api.ArgRef || p[63].Args[0].Value != i {
				t.Errorf("r%d: %+v, %v", i, p, e)
			}
		case i < 1000:
			refuses(t, x, s, len(head), api.ErrRef)
		default:
			refuses(t, x, s, len(head), api.ErrText)
		}
	}
	for _, s := range []string{"r", "r ", "r 0", "r00", "r01", "r-0", "r-1", "r0 0", "r0r0", "r+0", "rr0", "R0", "r0x", "r0=", "r18446744073709551616", "r" + strings.Repeat("0", 1000)} {
		refuses(t, x, "v(0)\nr("+s+")", 5, api.ErrText)
	}
}

// TestUnions: an @, and a part from 0 to 999 at once; between it and a number there is a blank.
func TestUnions(t *testing.T) {
	x := wide()
	kids := []struct {
		s string
		a api.Arg
	}{{"-7", value(-7)}, {"\"07\"", data("\x07")}, {"&5", ptr(value(5))}, {"{1, 2}", group(value(1), value(2))}, {"r0", ref(0)}}
	for i := range 1002 {
		k := kids[i%5]
		s := fmt.Sprint("u(@", i, " ", k.s, ")")
		tight := fmt.Sprint("u(@", i, k.s, ")")
		if i > 999 {
			refuses(t, x, "v(0)\n"+s, 5, api.ErrText)
			refuses(t, x, "v(0)\n"+tight, 5, api.ErrText)
			continue
		}
		want := api.Program{step(wValue, value(0)), step(wUnion, part(i, k.a))}
		reads(t, x, "v(0)\n"+s, want)
		reads(t, x, "v(0)\n"+strings.Replace(s, " ", "    ", 1), want)
		if i%5 == 0 {
			refuses(t, x, "v(0)\n"+tight, 5, api.ErrText)
		} else {
			reads(t, x, "v(0)\n"+tight, want)
		}
	}
	reads(t, x, "u(@2nil)", api.Program{step(wUnion, part(2, ptr()))})
	refuses(t, x, "u(@0@0 1)", 0, api.ErrKind)
	for _, s := range []string{"@", "@ 0 0", "@0", "@0 ", "@00", "@01", "@-1 0", "@-0 0", "@00 0", "@01 0", "@0-1", "@1000 0", "@0,0", "@0 ,", "@0)", "@0 0 0", "@r0", "@@0 0", "@nil", "@{}", "@18446744073709551616 0"} {
		refuses(t, x, "u("+s+")", 0, api.ErrText)
	}
}

// TestData: two small digits for each byte.
func TestData(t *testing.T) {
	x := wide()
	for c := range 256 {
		reads(t, x, fmt.Sprintf("d(\"%02x\")", c), api.Program{step(wData, data(string([]byte{byte(c)})))})
		reads(t, x, fmt.Sprintf("d(\"00%02xff\")", c), api.Program{step(wData, data(string([]byte{0, byte(c), 255})))})
		for _, s := range []string{string([]byte{byte(c), '0'}), string([]byte{'0', byte(c)})} {
			if strings.Trim(s, "0123456789abcdef") != "" {
				refuses(t, x, "d(\""+s+"\")", 0, api.ErrText)
			}
		}
	}
	reads(t, x, "d(\"\")", api.Program{step(wData, data(""))})
	reads(t, x, "d(\"\"  )", api.Program{step(wData, data(""))})
	for _, s := range []string{"\"", "\"0\"", "\"000\"", "\"00", "\"00 \"", "\" 00\"", "\"0 0\"", "\"00\"\"", "\"00\"00\"", "'00'", "\"\n\"", "00\"", "\"\"\"", "\"0x00\""} {
		refuses(t, x, "d("+s+")", 0, api.ErrText)
	}
	refuses(t, x, "d(\""+strings.Repeat("00", 65)+"\")", 0, api.ErrValue)
	refuses(t, x, "d(\""+strings.Repeat("00", 100000)+"\")", 0, api.ErrValue)
}

func TestPointersAndGroups(t *testing.T) {
	x := wide()
	reads(t, x, "p(nil)", api.Program{step(wPtr, ptr())})
	reads(t, x, "p(&-1)", api.Program{step(wPtr, ptr(value(-1)))})
	reads(t, x, "l({})", api.Program{step(wList, group())})
	reads(t, x, "l({1})", api.Program{step(wList, group(value(1)))})
	reads(t, x, "l({1,2,3})", api.Program{step(wList, group(value(1), value(2), value(3)))})
	for _, s := range []string{"n", "ni", "n il", "nill", "null", "NIL", "nil nil", "nil0", "&", "& ", "&)", "&,", "&nil&", "& & ", "{", "}", "{,}", "{1,}", "{,1}", "{1 2}", "{1,,2}", "{1", "{1,", "1}", "{1}}", "{{1}", "{1)", "(1)", "()", "[1]", "", ",", "1,", ",1", "1,,1", "1 1", "nilnil", "{}{}", "\"\"\"\"", "&*", "*"} {
		if s == "" {
			refuses(t, x, "l("+s+")", 0, api.ErrCount)
			continue
		}
		refuses(t, x, "l("+s+")", 0, api.ErrText)
	}
}

// TestDeep: an argument may stand within 399 others, and not within 400; this is told where it begins, ahead of all behind it.
func TestDeep(t *testing.T) {
	x := wide()
	for _, shape := range []struct{ open, shut string }{{"&", ""}, {"{", "}"}, {"@0 ", ""}, {"@0", ""}, {"{0, ", "}"}, {" { & ", " }"}, {"&@7{nil, {}, ", ",0}"}} {
		args := strings.Count(shape.open, "&") + strings.Count(shape.open, "@")
		if strings.Contains(shape.shut, "}") {
			args++
		}
		for _, kid := range []string{"r0", "nil", "\"\"", "{}", "5", "-5"} {
			if shape.open == "@0" && (kid == "5" || kid == "-5") {
				continue
			}
			nested := func(n int) string {
				return "p(" + strings.Repeat(shape.open, n/args) + strings.Repeat("&", n%args) + kid + strings.Repeat(shape.shut, n/args) + ")"
			}
			refuses(t, x, nested(398), 0, api.ErrKind) // as it is read, and no program of the table
			refuses(t, x, nested(399), 0, api.ErrKind)
			for _, n := range []int{400, 401, 402, 1000, 10000} {
				refuses(t, x, nested(n), 0, api.ErrDeep)
			}
			// What stands behind does not count, what stands ahead does.
			refuses(t, x, strings.TrimRight(nested(400), "})")+" ?", 0, api.ErrDeep)
			refuses(t, x, strings.TrimRight(nested(399), "})")+" ?", 0, api.ErrText)
			refuses(t, x, strings.Replace(nested(400), "p(", "p(00, ", 1), 0, api.ErrText)
			refuses(t, x, strings.Replace(nested(400), "p(", "p({}, ", 1), 0, api.ErrDeep)
		}
	}
}

// TestDeepBeginnings: an argument is met by its first byte; where none begins, a line is just wrong.
func TestDeepBeginnings(t *testing.T) {
	x := wide()
	for _, open := range []string{"&", "{", "@0 "} {
		deep := "p(" + strings.Repeat(open, 400)
		for c := range 256 {
			if c == ' ' || c == '\n' || c == '}' {
				continue
			}
			b := string([]byte{byte(c)})
			want := api.ErrText
			if strings.Contains("0123456789-rn&{@\"", b) {
				want = api.ErrDeep
			}
			refuses(t, x, deep+b, 0, want)
			refuses(t, x, deep+"   "+b, 0, want)
		}
		refuses(t, x, deep, 0, api.ErrText)
		refuses(t, x, deep+"  \n0", 0, api.ErrText)
	}
	refuses(t, x, "p("+strings.Repeat("{", 400)+strings.Repeat("}", 400)+")", 0, api.ErrKind)
	refuses(t, x, "p("+strings.Repeat("{", 400)+strings.Repeat("}", 400)+", "+strings.Repeat("{", 400)+strings.Repeat("}", 400)+")", 0, api.ErrCount)
	refuses(t, x, "p("+strings.Repeat("{", 400)+"}, {}"+strings.Repeat("}", 399)+")", 0, api.ErrKind)
	refuses(t, x, "p("+strings.Repeat("{", 400)+"}, {0}"+strings.Repeat("}", 399)+")", 0, api.ErrDeep)
}

// TestBlanks: any number of blanks may stand ahead of the line and behind each piece, and nowhere else.
func TestBlanks(t *testing.T) {
	x := sample(t)
	lines := []struct {
		pieces []string
		ahead  string
		want   api.Program
	}{
		{[]string{"r0", "=", "make", "(", ")"}, "", api.Program{step(cMake)}},
		{[]string{"plain", "(", "255", ",", "-2", ",", "5", ",", "r0", ",", "7", ")"}, "r0=make()\n", api.Program{step(cMake), step(cPlain, value(255), value(-2), value(5), ref(0), value(7))}},
		{[]string{"in", "(", "0", ",", "nil", ")"}, "", api.Program{step(cIn, value(0), ptr())}},
		{[]string{"in", "(", "8", ",", "&", "@1", "{", "2", ",", "\"00ff\"", ",", "-1", "}", ")"}, "", api.Program{step(cIn, value(8), ptr(part(1, group(value(2), data("\x00\xff"), value(-1)))))}},
		{[]string{"in", "(", "0", ",", "&", "@2", "{", "}", ")"}, "", api.Program{step(cIn, value(0), ptr(part(2, group())))}},
		{[]string{"in", "(", "6", ",", "&", "@4", "@0", "{", "0", ",", "\"\"", ",", "0", "}", ")"}, "", api.Program{step(cIn, value(6), ptr(part(4, part(0, group(value(0), data(""), value(0))))))}},
	}
	for _, line := range lines {
		for mask := range 1 << len(line.pieces) {
			s := strings.Repeat(" ", mask%3)
			for i, p := range line.pieces {
				s += p + strings.Repeat(" ", mask>>i&1*(1+i%4))
			}
			reads(t, x, line.ahead+s, line.want)
		}
		for i, p := range line.pieces {
			for k := 1; k < len(p); k++ {
				s := strings.Join(line.pieces[:i], "") + p[:k] + " " + p[k:] + strings.Join(line.pieces[i+1:], "")
				refuses(t, x, line.ahead+s, len(line.ahead), api.ErrText)
			}
		}
	}
	far := strings.Repeat(" ", 10000)
	reads(t, x, far+"r0"+far+"="+far+"make"+far+"("+far+")"+far, api.Program{step(cMake)})
}
