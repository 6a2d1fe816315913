package disk

import (
	"cmp"
	"slices"

	"dredger/api"
)

// find is where a sector stands in an epoch, or would stand.
func find(epoch []api.Sent, i int) (int, bool) {
	return slices.BinarySearchFunc(epoch, i, func(s api.Sent, i int) int {
		return cmp.Compare(s.Sector, i)
	})
}

// put is an epoch with a sector in place of what it had for it.
func put(epoch []api.Sent, i int, b []byte) []api.Sent {
	at, there := find(epoch, i)
	if there {
		copy(epoch[at].Bytes, b)
		return epoch
	}
	return slices.Insert(epoch, at, api.Sent{Sector: i, Bytes: slices.Clone(b)})
}

// copied is epochs in memory of their own.
func copied(epochs [][]api.Sent) [][]api.Sent {
	out := make([][]api.Sent, len(epochs))
	for i, epoch := range epochs {
		out[i] = slices.Clone(epoch)
		for j, s := range epoch {
			out[i][j].Bytes = slices.Clone(s.Bytes)
		}
	}
	return out
}
