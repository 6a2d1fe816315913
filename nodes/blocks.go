package nodes

import "dredger/api"

// free is how many blocks are not allocated.
func (s *System) free() int { return api.MaxBlocks - len(s.allocated()) }

// allocated is the numbers of the blocks that are, rising.
func (s *System) allocated() []int {
	var list []int
	for b, is := range s.taken {
		if is {
			list = append(list, b)
		}
	}
	return list
}

// take allocates a block for each place of a list, the lowest free numbers first. There must be as many.
func (s *System) take(list []int) {
	b := 1
	for i := range list {
		for s.taken[b] {
			b++
		}
		s.taken[b] = true
		list[i] = b
	}
}

// release lets blocks be free that their file does not have any more.
func (s *System) release(list []int) {
	if s.has(api.DefectBlocks) {
		return
	}
	for _, b := range list {
		s.taken[b] = false
	}
}
