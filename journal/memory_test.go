package journal_test

import (
	"bytes"
	"slices"
	"testing"

	"dredger/api"
)

// TestRecordsAreNotKept: what is handed in is neither changed nor kept, the room behind it included.
func TestRecordsAreNotKept(t *testing.T) {
	d := newDisk(t, 20)
	j, _ := open(t, d)
	room := []byte("abcdefgh")
	j.Append(room[:3])
	if string(room) != "abcdefgh" {
		t.Errorf("Append has changed its argument: %q", room)
	}
	copy(room, "xxxxxxxx")
	j.Append(room[:2])
	copy(room, "yyyyyyyy")
	j.Commit()
	if _, recs := open(t, d); !slices.Equal(told(recs), []string{"abc", "xx"}) {
		t.Errorf("Append has kept its argument: %q", told(recs))
	}
	list := [][]byte{[]byte("one!")[:3], []byte("two!")[:3], []byte("rest")}
	if e := j.Compact(list[:2]); e != api.OK {
		t.Fatal(e)
	}
	if string(list[0][:4]) != "one!" || string(list[1][:4]) != "two!" || string(list[2]) != "rest" {
		t.Errorf("Compact has changed its argument: %q", list)
	}
	was := d.Image()
	copy(list[0], "zzz")
	list[1] = nil
	commit(t, j, "more")
	if _, recs := open(t, d); !slices.Equal(told(recs), []string{"one", "two", "more"}) || bytes.Equal(was[0], rec(128)) {
		t.Errorf("Compact has kept its argument: %q", told(recs))
	}
}

// TestAnswersAreNew: records that are written over, and behind, change no other ones, nor the journal.
func TestAnswersAreNew(t *testing.T) {
	d := newDisk(t, 20)
	j, _ := open(t, d)
	commit(t, j, "abc", "defg")
	commit(t, j, "h")
	k, recs := open(t, d)
	_, other := open(t, d)
	for i, r := range recs {
		r = r[:cap(r)]
		for n := range r {
			r[n] = byte('0' + i)
		}
		if i+1 < len(recs) && !bytes.Equal(recs[i+1], other[i+1]) {
			t.Errorf("record %d is shared with the next one", i)
		}
	}
	for i, r := range recs {
		if r[0] != byte('0'+i) {
			t.Errorf("record %d is shared with a later one", i)
		}
	}
	if !slices.Equal(told(other), []string{"abc", "defg", "h"}) {
		t.Errorf("two answers share records: %q", told(other))
	}
	commit(t, k, "i")
	if _, again := open(t, d); !slices.Equal(told(again), []string{"abc", "defg", "h", "i"}) {
		t.Errorf("an answer is shared with the disk: %q", told(again))
	}
}
