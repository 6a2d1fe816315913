package binary_test

import (
	"math/big"

	"dredger/api"
)

// The model works with numbers of any size, and reads by trying: bytes are those of a program, if it is one that may be, and has these.

// numberBytes is a number of wire, of any size.
func numberBytes(n *big.Int) (b []byte) {
	rest := new(big.Int).Set(n)
	for last := byte(0); ; last = 0x80 {
		low := new(big.Int).And(rest, big.NewInt(127)).Int64()
		b = append([]byte{byte(low) | last}, b...)
		if rest.Rsh(rest, 7); rest.Sign() <= 0 {
			return b
		}
	}
}

func put(b []byte, n, more int) []byte {
	sum := new(big.Int).Add(big.NewInt(int64(n)), big.NewInt(int64(more)))
	if sum.Sign() < 0 {
		sum = new(big.Int).Lsh(big.NewInt(1), 64) // has no form of its own: one that no number has
	}
	return append(b, numberBytes(sum)...)
}

func putWhole(b []byte, n int) []byte {
	twice := new(big.Int).Mul(big.NewInt(2), big.NewInt(int64(n)))
	if n < 0 {
		twice.Sub(twice.Neg(twice), big.NewInt(1))
	}
	return append(b, numberBytes(twice)...)
}

// bytesOf is the form of any program, whether it may be or not.
func bytesOf(l []api.Exec) []byte {
	b := put(nil, len(l), 0)
	for _, x := range l {
		b = put(put(b, x.Number, 0), len(x.Copies), 0)
		for _, c := range x.Copies {
			b = put(put(b, c.Addr, 0), c.Ref, 1)
			if c.Ref == -1 {
				b = append(put(b, len(c.Bytes), 0), c.Bytes...)
			} else {
				b = putWhole(put(b, c.Size, 0), c.Value)
			}
		}
		b = put(b, len(x.Words), 0)
		for _, w := range x.Words {
			b = putWhole(put(b, w.Ref, 1), w.Value)
		}
	}
	return b
}

// mayBe is the chapter's question.
func mayBe(l []api.Exec) bool {
	ok := len(l) <= 64
	for i, x := range l {
		ok = ok && x.Number >= 0 && x.Number <= 63 && len(x.Copies) <= 400 && len(x.Words) <= 6
		for _, c := range x.Copies {
			ok = ok && c.Addr >= 0 && c.Addr <= 1048576
			laid := c.Ref == -1 && c.Size == 0 && c.Value == 0 && len(c.Bytes) >= 1 && len(c.Bytes) <= 2048
			result := c.Ref >= 0 && c.Ref < i && (c.Size == 1 || c.Size == 2 || c.Size == 4 || c.Size == 8) && len(c.Bytes) == 0
			ok = ok && (laid || result && c.Value >= -1152921504606846976 && c.Value <= 1152921504606846976)
		}
		for _, w := range x.Words {
			ok = ok && (w.Ref == -1 || w.Ref >= 0 && w.Ref < i) && w.Value >= -1152921504606846976 && w.Value <= 1152921504606846976
		}
	}
	return ok
}

// cut is one number off the front of bytes, if there is one that an int holds.
func cut(b *[]byte) (int, bool) {
	n := new(big.Int)
	for i, c := range *b {
		n.Or(n.Lsh(n, 7), big.NewInt(int64(c&127)))
		if c < 128 {
			*b = (*b)[i+1:]
			return int(n.Int64()), n.IsInt64()
		}
	}
	return 0, false
}

func cutWhole(b *[]byte) (int, bool) {
	n, ok := cut(b)
	if n%2 == 1 {
		return -(n / 2) - 1, ok
	}
	return n / 2, ok
}

// programOf is what bytes say, and whether they are those of a program that may be: the form is gone through loosely, and what came out is written again.
func programOf(b []byte) ([]api.Exec, bool) {
	rest := b
	right := true
	next := func(read func(*[]byte) (int, bool)) int {
		n, ok := read(&rest)
		right = right && ok
		return n
	}
	var l []api.Exec
	for calls := next(cut); calls > 0 && right; calls-- {
		x := api.Exec{Number: next(cut)}
		for copies := next(cut); copies > 0 && right; copies-- {
			c := api.Copy{Addr: next(cut), Ref: next(cut) - 1}
			if c.Ref >= 0 {
				c.Size, c.Value = next(cut), next(cutWhole)
			} else if n := next(cut); n >= 0 && n <= len(rest) {
				c.Bytes, rest = rest[:n], rest[n:]
			} else {
				right = false
			}
			x.Copies = append(x.Copies, c)
		}
		for words := next(cut); words > 0 && right; words-- {
			x.Words = append(x.Words, api.Word{Ref: next(cut) - 1, Value: next(cutWhole)})
		}
		l = append(l, x)
	}
	return l, right && mayBe(l) && string(bytesOf(l)) == string(b)
}
