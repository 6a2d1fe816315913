// Package wire is layer 1: numbers and texts as bytes, and check sums; see ../../shared/doc/01-wire.md.
package wire

// Put is b and a number from 0 on; below that it counts as 0.
func Put(b []byte, n int) []byte {
	return putNumber(withRoom(b, longest), max(n, 0))
}

// Signed is b and a whole number; beyond its bounds the nearer one counts.
func Signed(b []byte, n int) []byte {
	return putNumber(withRoom(b, longest), fold(min(max(n, lowest), highest)))
}

// Text is b and a text: how many bytes it has, and these.
func Text(b []byte, s string) []byte {
	return append(putNumber(withRoom(b, longest+len(s)), len(s)), s...)
}

// withRoom is a copy of b: what lies behind b's end belongs to whoever handed it in, so nothing is appended to b itself.
func withRoom(b []byte, room int) []byte {
	out := make([]byte, len(b), len(b)+room)
	copy(out, b)
	return out
}
