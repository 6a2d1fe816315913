package disk_test

import (
	"bytes"
	"slices"
	"testing"

	"dredger/api"
	"dredger/disk"
)

// spoil writes over a list and over the room behind it.
func spoil(b []byte) {
	b = b[:cap(b)]
	for i := range b {
		b[i] = '!'
	}
}

// check is that a disk is the one that withEpochs made.
func check(t *testing.T, d *disk.Disk, what string) {
	t.Helper()
	if told(t, d.Epochs()) != "0p1q|1r|" || !same(d.Image(), sectors("abc")) || !same(reads(t, d), sectors("prc")) {
		t.Errorf("%s: the disk has changed: %s", what, told(t, d.Epochs()))
	}
}

func withEpochs(t *testing.T) *disk.Disk {
	d := disk3(t)
	write(t, d, "pq|-r")
	return d
}

// TestHandedIn: what a disk is handed is neither changed nor kept, the room behind a list's end included.
func TestHandedIn(t *testing.T) {
	room := bytes.Repeat([]byte{'.'}, 3*api.Size)
	image := [][]byte{room[:api.Size], room[api.Size : 2*api.Size], nil}
	d, _ := disk.Of(image[:2])
	d.Write(0, room[:api.Size])
	d.Write(1, room[:api.Size])
	d.Write(1, room[:api.Size])
	d.Flush()
	if !bytes.Equal(room, bytes.Repeat([]byte{'.'}, 3*api.Size)) || image[2] != nil {
		t.Error("what was handed in has changed")
	}
	d.Write(1, filled('x'))
	d.Write(1, room[:api.Size])
	d.Write(0, room[:api.Size])
	spoil(room)
	image[0], image[1] = nil, nil
	if !same(d.Image(), sectors("..")) || !same(reads(t, d), sectors("..")) || told(t, d.Epochs()) != "0.1.|" {
		t.Error("what was handed in was kept")
	}
	d = withEpochs(t)
	keep := []int{1, 0, 7, 8}
	if d.Crash(0, keep[:2], 3) != api.OK || !slices.Equal(keep, []int{1, 0, 7, 8}) {
		t.Error("Crash has changed what it was handed:", keep)
	}
}

func TestAnswersAreNew(t *testing.T) {
	d := withEpochs(t)
	b, _ := d.Read(1)
	c, _ := d.Read(2)
	spoil(b)
	spoil(c)
	check(t, d, "Read")
	for _, s := range d.Image() {
		spoil(s)
	}
	check(t, d, "Image")
	for _, epoch := range d.Epochs() {
		epoch = epoch[:cap(epoch)]
		for i := range epoch {
			spoil(epoch[i].Bytes)
			epoch[i] = api.Sent{}
		}
	}
	all := d.Epochs()
	all = all[:cap(all)]
	clear(all)
	check(t, d, "Epochs")
}

// TestListsOfAnAnswer: a list of an answer, grown in its room, does not reach another one.
func TestListsOfAnAnswer(t *testing.T) {
	d := withEpochs(t)
	image := d.Image()
	for i := range image {
		spoil(image[i])
		if i+1 < len(image) && !same(image[i+1:], sectors("abc")[i+1:]) {
			t.Errorf("sector %d reaches the next one", i)
		}
	}
	epochs := d.Epochs()
	spoil(epochs[0][0].Bytes)
	first := epochs[0][:cap(epochs[0])]
	first[0] = api.Sent{Sector: 0, Bytes: filled('p')}
	for i := 2; i < len(first); i++ {
		first[i] = api.Sent{}
	}
	if told(t, epochs) != "0p1q|1r|" {
		t.Error("an epoch's list reaches another one:", told(t, epochs))
	}
	again := d.Epochs()
	spoil(again[1][0].Bytes)
	if told(t, epochs) != "0p1q|1r|" {
		t.Error("two answers share memory")
	}
}
