package corpus

import (
	"maps"
	"slices"

	"dredger/api"
)

const (
	longestProgram = 1500 // bytes of an entry's program
	greatestFault  = 99
	greatestPick   = 255
)

// entries are those of a corpus, by their keys.
type entries map[string]api.Entry

// takes tells whether there is room for an entry of this key.
func (all entries) takes(key string) bool {
	_, there := all[key]
	return there || len(all) < api.MaxEntries
}

func (all entries) keys() []string { return slices.Sorted(maps.Keys(all)) }

// isKey tells whether a text is a key.
func isKey(key string) bool {
	if len(key) < 1 || len(key) > api.MaxKey {
		return false
	}
	for i := range len(key) {
		if c := key[i]; (c < 'a' || c > 'z') && (c < '0' || c > '9') {
			return false
		}
	}
	return true
}

// mayBe tells whether an entry may be.
func mayBe(e api.Entry) bool {
	return isKey(e.Key) &&
		len(e.Program) <= longestProgram &&
		arePoints(e.Points) &&
		within(e.Fault, greatestFault) &&
		arePicks(e.Picks) &&
		(e.Fault > 0 || len(e.Picks) == 0)
}

func within(n, most int) bool { return n >= 0 && n <= most }

func arePoints(points []int) bool {
	least := 0
	for _, p := range points {
		if p < least || p >= api.MaxPoints {
			return false
		}
		least = p + 1
	}
	return true
}

func arePicks(picks []int) bool {
	for _, p := range picks {
		if !within(p, greatestPick) {
			return false
		}
	}
	return true
}

// copied is an entry with lists of its own.
func copied(e api.Entry) api.Entry {
	e.Points = slices.Clone(e.Points)
	e.Picks = slices.Clone(e.Picks)
	return e
}
