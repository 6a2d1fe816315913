// Package disk is layer 2: sectors, and a cache that a crash loses; see ../../shared/doc/02-disk.md.
package disk

import (
	"slices"

	"dredger/api"
)

// Disk is sectors behind a cache.
type Disk struct {
	durable []byte       // all sectors, one behind the other; none: no call made this disk
	written []byte       // likewise, with what the epochs put into them
	epochs  [][]api.Sent // what is not durable; each one's sectors rise
	open    bool         // whether the last epoch takes the next write
}

// New is a disk of so many sectors of noughts.
func New(sectors int) (*Disk, api.Errno) {
	if sectors < 1 || sectors > api.MaxSectors {
		return nil, api.ErrArg
	}
	return of(make([]byte, sectors*api.Size)), api.OK
}

// Of is a disk of the sectors of an image.
func Of(image [][]byte) (*Disk, api.Errno) {
	if len(image) < 1 || len(image) > api.MaxSectors {
		return nil, api.ErrArg
	}
	durable := make([]byte, 0, len(image)*api.Size)
	for _, b := range image {
		if len(b) != api.Size {
			return nil, api.ErrArg
		}
		durable = append(durable, b...)
	}
	return of(durable), api.OK
}

// of is a disk that has durable as its own.
func of(durable []byte) *Disk {
	return &Disk{durable: durable, written: slices.Clone(durable)}
}

func (d *Disk) usable() bool { return d != nil && len(d.durable) > 0 }

func (d *Disk) has(i int) bool { return i >= 0 && i < d.Sectors() }

// Sectors is how many the disk has.
func (d *Disk) Sectors() int {
	if !d.usable() {
		return 0
	}
	return len(d.durable) / api.Size
}

// Read is what was written to a sector last, or what is durable there.
func (d *Disk) Read(i int) ([]byte, api.Errno) {
	if !d.usable() {
		return nil, api.ErrNil
	}
	if !d.has(i) {
		return nil, api.ErrArg
	}
	return slices.Clone(sector(d.written, i)), api.OK
}

// Write puts a sector into the last epoch, or, behind a barrier, into a new one.
func (d *Disk) Write(i int, b []byte) api.Errno {
	if !d.usable() {
		return api.ErrNil
	}
	if !d.has(i) || len(b) != api.Size {
		return api.ErrArg
	}
	if !d.open {
		d.epochs = append(d.epochs, nil)
		d.open = true
	}
	last := len(d.epochs) - 1
	d.epochs[last] = put(d.epochs[last], i, b)
	copy(sector(d.written, i), b)
	return api.OK
}

// Barrier lets the next Write begin a new epoch. An epoch begins with a write, so barriers with nothing between them are one.
func (d *Disk) Barrier() api.Errno {
	if !d.usable() {
		return api.ErrNil
	}
	d.open = false
	return api.OK
}

// Epochs is what is not durable.
func (d *Disk) Epochs() [][]api.Sent {
	if !d.usable() {
		return nil
	}
	return copied(d.epochs)
}

// Flush makes all epochs durable, one behind the other.
func (d *Disk) Flush() api.Errno {
	if !d.usable() {
		return api.ErrNil
	}
	d.settle(d.epochs, nil)
	return api.OK
}

// Image is all sectors, as they are durable. They are cut out of one new image.
func (d *Disk) Image() [][]byte {
	if !d.usable() {
		return nil
	}
	durable := slices.Clone(d.durable)
	image := make([][]byte, d.Sectors())
	for i := range image {
		image[i] = sector(durable, i)
	}
	return image
}

// Copy is another disk with the same image, epochs and barrier.
func (d *Disk) Copy() *Disk {
	if !d.usable() {
		return nil
	}
	return &Disk{
		durable: slices.Clone(d.durable),
		written: slices.Clone(d.written),
		epochs:  copied(d.epochs),
		open:    d.open,
	}
}

// sector cuts sector i out of an image. Its room ends where it ends, so that nothing appended to it reaches the next one.
func sector(image []byte, i int) []byte {
	from, to := i*api.Size, (i+1)*api.Size
	return image[from:to:to]
}
