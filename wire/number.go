package wire

import "dredger/api"

const (
	digit   = 7    // bits of a number in one byte
	low     = 0x7f // these bits
	more    = 0x80 // the bit that all bytes but the last have
	longest = 9    // bytes of the greatest number

	lowest  = -1 << 62 // the bounds of a whole number
	highest = 1<<62 - 1
)

// putNumber appends n, which is not below 0, to b.
func putNumber(b []byte, n int) []byte {
	shift := 0
	for n>>shift > low {
		shift += digit
	}
	for ; shift > 0; shift -= digit {
		b = append(b, byte(n>>shift)|more)
	}
	return append(b, byte(n)&low)
}

// number is the one that b begins with, and how many bytes it has: none, if there is an error.
func number(b []byte) (n, size int, e api.Errno) {
	if len(b) > 0 && b[0] == more {
		return 0, 0, api.ErrForm
	}
	for i, c := range b[:min(len(b), longest)] {
		n = n<<digit | int(c&low)
		if c&more == 0 {
			return n, i + 1, api.OK
		}
	}
	if len(b) < longest {
		return 0, 0, api.ErrShort
	}
	return 0, 0, api.ErrRange
}

// fold is the number that stands for a whole one: 2n, or below 0 its complement, -2n - 1, which does not overflow.
func fold(n int) int {
	if n < 0 {
		return ^(2 * n)
	}
	return 2 * n
}

// unfold is the whole number that a number stands for.
func unfold(n int) int {
	if n%2 == 1 {
		return ^(n / 2)
	}
	return n / 2
}
