package journal

import (
	"bytes"

	"dredger/api"
	"dredger/below"
	"dredger/disk"
)

// store is a disk whose errors are wrapped.
type store struct{ disk *disk.Disk }

func (s store) read(i int) ([]byte, error) {
	b, e := s.disk.Read(i)
	return b, below.Wrap("disk.Read", e)
}

func (s store) write(i int, b []byte) error {
	return below.Wrap("disk.Write", s.disk.Write(i, b))
}

func (s store) flush() error {
	return below.Wrap("disk.Flush", s.disk.Flush())
}

// wipe writes noughts to those of some sectors that have other bytes, and flushes, if there was one.
func (s store) wipe(sectors []int) error {
	noughts := make([]byte, api.Size)
	wiped := false
	for _, i := range sectors {
		b, err := s.read(i)
		if err != nil {
			return err
		}
		if bytes.Equal(b, noughts) {
			continue
		}
		if err := s.write(i, noughts); err != nil {
			return err
		}
		wiped = true
	}
	if !wiped {
		return nil
	}
	return s.flush()
}

// writeHead writes a generation's head.
func (s store) writeHead(generation int) error {
	if err := s.write(headOf(generation), head(generation)); err != nil {
		return err
	}
	return s.flush()
}

// writeGroup writes a group from a place of an area on. No barrier parts its sectors, as a group that lacks one is no group.
func (s store) writeGroup(a area, place, number int, load []byte) error {
	for len(load) > 0 {
		part := load[:min(len(load), api.Load)]
		load = load[len(part):]
		b := sector{place, a.generation, number, len(load) == 0, part}.bytes()
		if err := s.write(a.first+place, b); err != nil {
			return err
		}
		place++
	}
	return s.flush()
}
