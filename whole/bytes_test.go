package whole_test

import (
	"bytes"
	"errors"
	"hash/crc32"
	"reflect"
	"slices"
	"strings"
	"testing"

	"dredger/api"
	"dredger/binary"
	"dredger/corpus"
	"dredger/disk"
	"dredger/draw"
	"dredger/fuzz"
	"dredger/gen"
	"dredger/lex"
	"dredger/parse"
	"dredger/prog"
	"dredger/run"
	"dredger/text"
	"dredger/types"
)

// spoilt is bytes some of which were changed, cut out, put in, or doubled.
func spoilt(n *numbers, s, any string) string {
	for range 1 + n.next(3) {
		i := n.next(len(s) + 1)
		k := min(len(s), i+pick(n, 0, 1, 1, 2, n.next(20)))
		switch n.next(4) {
		case 0:
			s = s[:i] + s[k:]
		case 1:
			s = s[:i] + any[n.next(len(any)):][:1] + s[k:]
		case 2:
			s = s[:k] + s[i:]
		case 3:
			s = s[:i] + string([]byte{byte(n.next(256))}) + s[k:]
		}
	}
	return s
}

// junk is any bytes.
func junk(n *numbers, most int) string {
	b := make([]byte, n.next(most))
	for i := range b {
		b[i] = byte(pick(n, n.next(256), n.next(128), 10, 32))
	}
	return string(b)
}

// TestAnyDescription: P3, what is accepted has one form: the tokens, with one blank between, say the same.
func TestAnyDescription(t *testing.T) {
	n := numbers(5)
	k := met{}
	for range 3000 {
		s := author{&n, pick(&n, 0, 10)}.description()
		switch n.next(10) {
		case 0:
			s = junk(&n, 100)
		case 1:
		default:
			s = spoilt(&n, s, "\n ,[](){}:=\"#0-$_az5")
		}
		x, ok := compiled(t, k, s)
		if !ok {
			continue
		}
		l, err := lex.Scan(s)
		y, why := types.Compile(lex.Print(l))
		if err != nil || why != nil || !reflect.DeepEqual(x, y) {
			t.Fatalf("%q: %+v, %v, %v, want %+v", s, y, err, why, x)
		}
		d, err := parse.Parse(s)
		again := parse.Print(d)
		e, why := parse.Parse(again)
		if err != nil || why != nil || parse.Print(e) != again {
			t.Fatalf("%q: %q, %v, %v", s, again, err, why)
		}
	}
	k.enough(t, 200, "table", api.ErrToken.Error())
	k.enough(t, 20, api.ErrChar.Error(), api.ErrQuote.Error(), api.ErrName.Error(), api.ErrType.Error())
}

// TestAnyText: P3, of texts of programs.
func TestAnyText(t *testing.T) {
	n := numbers(6)
	k := met{}
	for range 300 {
		x, ok := compiled(t, met{}, author{&n, 0}.description())
		if !ok {
			continue
		}
		for range 20 {
			p, _ := gen.Program(x, draw.Weigh(x, nil), draw.New(script(&n)), 8)
			s, _ := text.Print(x, p)
			switch n.next(8) {
			case 0:
				s = junk(&n, 60)
			case 1:
				s = strings.NewReplacer(",", " ,  ", "(", "( ", "\n", "\n\n # \n ").Replace(s)
			default:
				s = spoilt(&n, s, "\n ,&@{}()\"r=0-9nilf5#")
			}
			q, err := text.Parse(x, s)
			if err != nil {
				var f api.Fault
				if !errors.As(err, &f) || q != nil || f.At < 0 || f.At > len(s) || f.At > 0 && s[f.At-1] != '\n' {
					t.Fatalf("%q: %+v, %v", s, q, err)
				}
				k[f.Why.Error()]++
				continue
			}
			k["program"]++
			one, e := text.Print(x, q)
			again, err := text.Parse(x, one)
			same, _ := text.Print(x, again)
			if prog.Check(x, q) != nil || e != api.OK || err != nil || !prog.Same(again, q) || same != one {
				t.Fatalf("%q: %+v, %q, %v", s, q, one, err)
			}
		}
	}
	k.enough(t, 200, "program", api.ErrText.Error())
	k.enough(t, 10, api.ErrValue.Error(), api.ErrCount.Error(), api.ErrKind.Error())
}

// TestAnyProgram: P3, of bytes of executed programs, which are run, too.
func TestAnyProgram(t *testing.T) {
	n := numbers(7)
	k := met{}
	for range 6000 {
		m := &maker{numbers: &n}
		good, _ := binary.Encode(m.program())
		b := []byte(spoilt(&n, string(good), "\x00\x01\x02\x7f\x80\x81\xff"))
		switch n.next(10) {
		case 0:
			b = []byte(junk(&n, 40))
		case 1:
			b = good
		}
		l, e := binary.Decode(b)
		defects, picks := pick(&n, 0, 0, n.next(64)), m.picks()
		r, why := run.Run(b, defects, picks)
		if e != api.OK {
			if k["none"]++; e != api.ErrCode || l != nil || why != api.ErrCode || !reflect.DeepEqual(r, api.Report{}) {
				t.Fatalf("% x: %+v, %v, %+v, %v", b, l, e, r, why)
			}
			continue
		}
		k["program"]++
		if one, e := binary.Encode(l); e != api.OK || !bytes.Equal(one, b) || why != api.OK {
			t.Fatalf("% x: % x, %v, %v", b, one, e, why)
		}
		k.runs(t, l, defects, picks)
	}
	k.enough(t, 500, "program", "none")
}

// sealed is a sector with the sum that it must have.
func sealed(b []byte) []byte {
	sum := crc32.Checksum(b[:123], crc32.MakeTable(crc32.Castagnoli))
	copy(b[123:], []byte{byte(sum), byte(sum >> 8), byte(sum >> 16), byte(sum >> 24), 0xa5})
	return b
}

// image is a disk's that loops wrote, some of whose sectors were changed since.
func image(t *testing.T, n *numbers, description string) [][]byte {
	t.Helper()
	d, _ := disk.New(pick(n, 4, 5, 10, 30, 60))
	l, err := fuzz.New(d, description, n.next(64))
	if err != nil {
		t.Fatal(err)
	}
	for range n.next(12) {
		l.Turn(script(n), script(n))
	}
	all := d.Image()
	for range n.next(4) {
		b := all[pick(n, n.next(len(all)), n.next(2), 2+(len(all)-2)/2*n.next(2))]
		switch n.next(5) {
		case 0:
			copy(b, bytes.Repeat([]byte{byte(n.next(256))}, n.next(129)))
		case 1:
			copy(b, all[n.next(len(all))])
		case 2:
			b[n.next(128)] ^= 1 << n.next(8)
		case 3:
			b[pick(n, n.next(123), n.next(21))] = byte(n.next(256))
			sealed(b)
		case 4:
			b[21+n.next(60)] ^= 1 << n.next(8)
			sealed(b)
		}
	}
	return all
}

// TestAnyDisk: P3, of disks: what is there may be taken, opened again it is the same, and turns go on.
func TestAnyDisk(t *testing.T) {
	n := numbers(8)
	k := met{}
	for range 700 {
		s := author{&n, 0}.description()
		if _, ok := compiled(t, met{}, s); !ok {
			continue
		}
		d, e := disk.Of(image(t, &n, s))
		if e != api.OK {
			t.Fatal(e)
		}
		l, err := fuzz.New(d, s, 63)
		if err != nil {
			t.Fatal(err)
		}
		looks(t, l)
		k["entries"] += len(l.Entries())
		for range 3 {
			was := l.Entries()
			if s, e := l.Turn(script(&n), script(&n)); s == "" || e != api.OK {
				t.Fatal(s, e)
			}
			for _, e := range was {
				if !slices.ContainsFunc(l.Entries(), func(x api.Entry) bool { return same(x, e) }) {
					t.Fatalf("%+v is gone", e)
				}
			}
			looks(t, l)
			k["more"] += len(l.Entries()) - len(was)
		}
	}
	k.enough(t, 200, "entries", "more")
}

func same(a, b api.Entry) bool {
	return a.Key == b.Key && a.Program == b.Program && slices.Equal(a.Points, b.Points) && a.Fault == b.Fault && slices.Equal(a.Picks, b.Picks)
}

// looks asks whether another loop, and a corpus, of a loop's disk have the same.
func looks(t *testing.T, l *fuzz.Loop) {
	t.Helper()
	d, _ := disk.Of(l.Disk().Image())
	other, err := fuzz.New(d, "", 0)
	if err != nil || !slices.EqualFunc(other.Entries(), l.Entries(), same) || !slices.Equal(other.Points(), l.Points()) {
		t.Fatalf("%+v, %v, want %+v", other.Entries(), err, l.Entries())
	}
	c, _ := corpus.Open(d)
	var points []int
	for _, e := range l.Entries() {
		x, why := c.Get(e.Key)
		if why != api.OK || !same(x, e) {
			t.Fatalf("%+v, %v, want %+v", x, why, e)
		}
		if e.Fault == 0 {
			points = corpus.Merge(points, e.Points)
		}
	}
	if !slices.Equal(points, l.Points()) {
		t.Fatalf("%v, want %v", l.Points(), points)
	}
}
