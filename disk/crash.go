package disk

import "dredger/api"

// Crash leaves the first epochs, and of the next one the sectors of keep, of which the greatest is torn behind so many bytes.
func (d *Disk) Crash(epochs int, keep []int, torn int) api.Errno {
	if !d.usable() {
		return api.ErrNil
	}
	if epochs < 0 || epochs > len(d.epochs) {
		return api.ErrPlace
	}
	var next []api.Sent
	if epochs < len(d.epochs) {
		next = d.epochs[epochs]
	}
	kept, ok := choose(next, keep)
	if !ok {
		return api.ErrPlace
	}
	if torn < 0 {
		return api.ErrArg
	}
	d.settle(d.epochs[:epochs], tear(kept, torn))
	return api.OK
}

// choose is the sectors of an epoch that keep names, rising; false, if one of them is not there, or is named twice.
func choose(epoch []api.Sent, keep []int) ([]api.Sent, bool) {
	named := make([]bool, len(epoch))
	for _, i := range keep {
		at, there := find(epoch, i)
		if !there || named[at] {
			return nil, false
		}
		named[at] = true
	}
	var chosen []api.Sent
	for at, s := range epoch {
		if named[at] {
			chosen = append(chosen, s)
		}
	}
	return chosen, true
}

// tear cuts the bytes of the last, and so greatest, of some sectors: what is cut off does not get to the disk.
func tear(sent []api.Sent, torn int) []api.Sent {
	if len(sent) > 0 {
		last := &sent[len(sent)-1]
		last.Bytes = last.Bytes[:min(torn, len(last.Bytes))]
	}
	return sent
}

// settle makes whole epochs, and a part of a further one, durable; all else is lost.
func (d *Disk) settle(whole [][]api.Sent, part []api.Sent) {
	for _, epoch := range whole {
		d.land(epoch)
	}
	d.land(part)
	copy(d.written, d.durable)
	d.epochs = nil
	d.open = false
}

// land makes bytes durable; of a sector that is torn, those that are missing stay as they were.
func (d *Disk) land(sent []api.Sent) {
	for _, s := range sent {
		copy(sector(d.durable, s.Sector), s.Bytes)
	}
}
