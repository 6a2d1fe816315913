package binary

import "dredger/api"

const (
	lastNumber  = 63 // of calls
	maxCopies   = 400
	lastAddress = 1 << 20
	lowest      = -1 << 60 // the bounds of a value
	highest     = 1 << 60
	noResult    = -1 // the Ref of what names no result
)

// mayBe: may a call be at its place?
func mayBe(x api.Exec, place int) bool {
	if !isWithin(x.Number, 0, lastNumber) || len(x.Copies) > maxCopies || len(x.Words) > api.MaxArgs {
		return false
	}
	for _, c := range x.Copies {
		if !copyMayBe(c, place) {
			return false
		}
	}
	for _, w := range x.Words {
		if !isWithin(w.Ref, noResult, place-1) || !isValue(w.Value) {
			return false
		}
	}
	return true
}

func copyMayBe(c api.Copy, place int) bool {
	if !isWithin(c.Addr, 0, lastAddress) {
		return false
	}
	if c.Ref == noResult {
		return c.Size == 0 && c.Value == 0 && isWithin(len(c.Bytes), 1, api.Memory)
	}
	return isWithin(c.Ref, 0, place-1) && isSize(c.Size) && isValue(c.Value) && len(c.Bytes) == 0
}

func isWithin(n, least, most int) bool { return least <= n && n <= most }

func isValue(n int) bool { return isWithin(n, lowest, highest) }

func isSize(n int) bool { return n == 1 || n == 2 || n == 4 || n == 8 }
