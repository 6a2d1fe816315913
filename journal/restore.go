package journal

import "dredger/api"

// restore finds the newest generation and its groups, and wipes what crashes left; without a generation it begins the first one.
func (j *Journal) restore() ([][]byte, error) {
	var found [heads]int
	for i := range found {
		b, err := j.store.read(i)
		if err != nil {
			return nil, err
		}
		found[i] = rightHead(b, i)
	}
	newest := max(found[0], found[1])
	if newest == 0 {
		return nil, j.start()
	}
	j.area = areaOf(newest, j.store.disk.Sectors())
	recs, err := j.readGroups()
	if err != nil {
		return nil, err
	}
	return recs, j.store.wipe(j.leftovers(found))
}

// start begins generation 1. What might be taken for a part of it is gone ahead of its head.
func (j *Journal) start() error {
	j.area = areaOf(1, j.store.disk.Sectors())
	if err := j.store.wipe(append([]int{headOf(0)}, j.area.behind(0)...)); err != nil {
		return err
	}
	return j.store.writeHead(1)
}

// leftovers are the sectors that belong to nothing: the other head's, if that is not right, and those behind the last group.
func (j *Journal) leftovers(found [heads]int) []int {
	var sectors []int
	if other := headOf(j.area.generation + 1); found[other] == 0 {
		sectors = append(sectors, other)
	}
	return append(sectors, j.area.behind(j.used)...)
}

// readGroups is the records of all groups of the area.
func (j *Journal) readGroups() ([][]byte, error) {
	var all [][]byte
	for {
		load, err := j.readLoad()
		if err != nil {
			return nil, err
		}
		recs := records(load)
		if len(recs) == 0 {
			return all, nil
		}
		all = append(all, recs...)
		j.groups++
		j.used += need(len(load))
	}
}

// readLoad is the load of the next group's sectors; none, if they are not there.
func (j *Journal) readLoad() ([]byte, error) {
	var load []byte
	for place := j.used; place < j.area.size; place++ {
		b, err := j.store.read(j.area.first + place)
		if err != nil {
			return nil, err
		}
		s, ok := rightSector(b, place, j.area.generation, j.groups+1)
		if !ok {
			return nil, nil
		}
		load = append(load, s.load...)
		if s.last {
			return load, nil
		}
		if len(s.load) < api.Load {
			return nil, nil
		}
	}
	return nil, nil
}
