package lex_test

import (
	"strings"
	"testing"

	"dredger/api"
)

// TestExample: of the chapter.
func TestExample(t *testing.T) {
	tells(t, "a$b(0x1f)", name(0, "a$b"), mark(3, "("), number(4, "0x1f", 31), mark(8, ")"))
}

func TestNames(t *testing.T) {
	for _, s := range []string{"a", "z", "_", "a0", "a9", "a_", "a$", "az", "_$", "__", "a$b$c0", "abcdefghijklmnopqrstuvwxyz_0123456789$", strings.Repeat("n", 4000)} {
		tells(t, s, name(0, s))
	}
	tells(t, "a-1", name(0, "a"), number(1, "-1", -1))
	tells(t, "a:b", name(0, "a"), mark(1, ":"), name(2, "b"))
	tells(t, `a"b"c`, name(0, "a"), quoted(1, "b"), name(4, "c"))
	tells(t, "a b", name(0, "a"), name(2, "b"))
	refuses(t, "aB", 1, api.ErrChar)
	refuses(t, "$a", 0, api.ErrChar)
}

func TestNumbers(t *testing.T) {
	for s, want := range map[string]int{
		"0": 0, "-0": 0, "7": 7, "-5": -5, "0123456789": 123456789, "007": 7, "00": 0, "-09": -9,
		"0x0": 0, "0x00": 0, "0x9": 9, "0xa": 10, "0xf": 15, "0x10": 16, "-0x1f": -31, "0xabcdef": 0xabcdef, "0x00000000000000000001": 1,
		"2147483647": 1<<31 - 1, "2147483648": 1 << 31, "-2147483648": -1 << 31,
		"0x7fffffff": 1<<31 - 1, "0x80000000": 1 << 31, "-0x80000000": -1 << 31,
		strings.Repeat("0", 3990) + "2147483648": 1 << 31,
	} {
		tells(t, s, number(0, s, want))
	}
	tells(t, "5-3", number(0, "5", 5), number(1, "-3", -3))
	tells(t, `5"a"`, number(0, "5", 5), quoted(1, "a"))
	tells(t, "1:2,3", number(0, "1", 1), mark(1, ":"), number(2, "2", 2), mark(3, ","), number(4, "3", 3))
	tells(t, "0 x", number(0, "0", 0), name(2, "x"))
	tells(t, "1#2\n3", number(0, "1", 1), line(3), number(4, "3", 3))
}

func TestNumbersThatGoOn(t *testing.T) {
	for _, last := range "abcxyz_$" {
		refuses(t, "(12"+string(last), 3, api.ErrChar)
		refuses(t, "-3"+string(last)+"4", 2, api.ErrChar)
	}
	for _, last := range "gxyz_$" {
		refuses(t, " 0x1f"+string(last), 5, api.ErrChar)
		refuses(t, " 0x"+string(last), 2, api.ErrChar)
	}
	for s, at := range map[string]int{"0x": 1, "-0x": 2, "0x ": 1, "0x(": 1, "0xA": 1, "00x1": 2, "10x1": 2, "0x1x1": 3, "0X1": 1, "5A": 1, "1f": 1, "0f": 1, "0_": 1, "0$": 1} {
		refuses(t, s, at, api.ErrChar)
	}
	for _, s := range []string{"-", "- 5", "--5", "-a", "-$", "-x1", "-(", "-\n", `-"1"`, "-A", "-_"} {
		refuses(t, s, 0, api.ErrChar)
	}
}

func TestNumbersTooGreat(t *testing.T) {
	for _, s := range []string{
		"2147483649", "-2147483649", "0x80000001", "-0x80000001", "4294967296", "0x100000000", "9223372036854775808", "18446744073709551616", "0x10000000000000000",
		"18446744073709551617", "-18446744073709551617", strings.Repeat("9", 3990), "0x" + strings.Repeat("f", 3990), "1" + strings.Repeat("0", 3990), "0x8" + strings.Repeat("0", 64),
	} {
		refuses(t, s, 0, api.ErrBig)
		refuses(t, "a\n"+s, 2, api.ErrBig)
		// The number's fault is ahead of that of what stands behind it.
		refuses(t, " "+s+"x", 1, api.ErrBig)
		refuses(t, " "+s+" A", 1, api.ErrBig)
	}
	refuses(t, "A 2147483649", 0, api.ErrChar)
	refuses(t, "2147483648x", 10, api.ErrChar)
}

func TestTexts(t *testing.T) {
	var all strings.Builder
	for b := byte(32); b <= 126; b++ {
		if b != '"' {
			all.WriteByte(b)
		}
	}
	for _, s := range []string{"", " ", "a", "t x", "# no comment", "A~!", `\`, "(", "0x", all.String(), strings.Repeat("t", 3998)} {
		tells(t, `"`+s+`"`, quoted(0, s))
	}
	tells(t, `"a""b"`, quoted(0, "a"), quoted(3, "b"))
	tells(t, `"a"b`, quoted(0, "a"), name(3, "b"))
	tells(t, `"a"7`, quoted(0, "a"), number(3, "7", 7))
	for _, s := range []string{`"`, `"a`, `"a"" `, `"a"b"`} {
		refuses(t, s, strings.LastIndex(s, `"`), api.ErrQuote)
	}
	for b := range 256 {
		if b < 32 || b > 126 {
			refuses(t, "(\"a"+string([]byte{byte(b)})+"b\"", 1, api.ErrQuote)
			refuses(t, "\""+string([]byte{byte(b)})+"\"", 0, api.ErrQuote)
		}
	}
	// What a text may not have is not looked for any further.
	refuses(t, "\"a\nA", 0, api.ErrQuote)
}

func TestMarksAndLines(t *testing.T) {
	for _, s := range []string{"(", ")", "[", "]", "{", "}", ",", ":", "="} {
		tells(t, s, mark(0, s))
		tells(t, s+s, mark(0, s), mark(1, s))
		tells(t, "a"+s+"1"+s+"\n", name(0, "a"), mark(1, s), number(2, "1", 1), mark(3, s), line(4))
	}
	tells(t, "\n", line(0))
	tells(t, "\n\r\n\n", line(0), line(2), line(3))
}

// TestBytes: each byte alone, and at the beginning of a token.
func TestBytes(t *testing.T) {
	for b := range 256 {
		s := string([]byte{byte(b)})
		switch {
		case b >= 'a' && b <= 'z' || b == '_':
			tells(t, s, name(0, s))
			tells(t, "\n"+s, line(0), name(1, s))
		case b >= '0' && b <= '9':
			tells(t, s, number(0, s, b-'0'))
		case strings.Contains(" \t\r#", s):
			tells(t, s)
			tells(t, s+s)
			tells(t, "a"+s, name(0, "a"))
		case b == '\n':
			tells(t, s, line(0))
		case strings.Contains("()[]{},:=", s):
			tells(t, s, mark(0, s))
		case b == '"':
			refuses(t, s, 0, api.ErrQuote)
		default:
			refuses(t, s, 0, api.ErrChar)
			refuses(t, "( "+s, 2, api.ErrChar)
		}
	}
}

func TestBlanksAndComments(t *testing.T) {
	tells(t, "")
	tells(t, " \t\r ")
	tells(t, "#")
	tells(t, "a # b", name(0, "a"))
	tells(t, "#a\nb", line(2), name(3, "b"))
	tells(t, "##\"\n#", line(3))
	tells(t, "a#", name(0, "a"))
	var all []byte
	for b := range 256 {
		if b != '\n' {
			all = append(all, byte(b))
		}
	}
	tells(t, "a #"+string(all)+"\n)", name(0, "a"), line(258), mark(259, ")"))
	for _, b := range []string{"\v", "\f", "\x00", "\u00a0", "\u0085"} {
		refuses(t, "a "+b, 2, api.ErrChar)
	}
}

func TestTooLong(t *testing.T) {
	for _, s := range []string{"(", " ", "#", "\n"} {
		whole := strings.Repeat(s, api.MaxText)
		scan(t, whole)
		refuses(t, whole+s, 0, api.ErrFull)
		refuses(t, whole+"A", 0, api.ErrFull)
		refuses(t, whole+"\"", 0, api.ErrFull)
		refuses(t, "A"+whole, 0, api.ErrFull)
		refuses(t, strings.Repeat(whole, 100), 0, api.ErrFull)
	}
	refuses(t, strings.Repeat("(", api.MaxText-1)+"A", api.MaxText-1, api.ErrChar)
	refuses(t, strings.Repeat("A", api.MaxText), 0, api.ErrChar)
}

// TestFirstFault: of several the one that stands first.
func TestFirstFault(t *testing.T) {
	refuses(t, "A \" 9999999999", 0, api.ErrChar)
	refuses(t, "9999999999 A", 0, api.ErrBig)
	refuses(t, "\"\t9999999999", 0, api.ErrQuote)
	refuses(t, "1a 9999999999", 1, api.ErrChar)
}
