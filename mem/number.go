package mem

// widest is how many bytes a number has.
const widest = 8

// Little is the lowest bytes of a number, the lowest first.
func Little(n, width int) []byte {
	b := make([]byte, min(max(width, 0), widest))
	for i := range b {
		b[i] = byte(uint64(n) >> (8 * i))
	}
	return b
}

// Number is the number whose lowest bytes, the lowest first, are given; those behind the eighth play no part.
func Number(b []byte) int {
	var n uint64
	for i, c := range b[:min(len(b), widest)] {
		n |= uint64(c) << (8 * i)
	}
	return int(n)
}
