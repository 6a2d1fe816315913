package corpus

import (
	"dredger/api"
	"dredger/wire"
)

// Kinds of records.
const (
	kindPut    = 1
	kindDelete = 2
)

// putRecord is the record of Put; false, if the journal takes none of its length.
func putRecord(e api.Entry) ([]byte, bool) {
	if len(e.Picks) > api.MaxRecord {
		return nil, false // each has a byte at least: a list of any length is not written out to tell so
	}
	rec := wire.Text(wire.Text([]byte{kindPut}, e.Key), e.Program)
	rec = withNumbers(rec, e.Points)
	rec = wire.Put(rec, e.Fault)
	rec = withNumbers(rec, e.Picks)
	return rec, len(rec) <= api.MaxRecord
}

// withNumbers is rec, how many numbers there are, and these. They are appended, as wire.Put of rec would copy it for each.
func withNumbers(rec []byte, numbers []int) []byte {
	rec = wire.Put(rec, len(numbers))
	for _, n := range numbers {
		rec = append(rec, wire.Put(nil, n)...)
	}
	return rec
}

// deleteRecord is the record of Delete.
func deleteRecord(key string) []byte { return wire.Text([]byte{kindDelete}, key) }

// records are those of Put of all entries, by their keys.
func (all entries) records() [][]byte {
	var recs [][]byte
	for _, key := range all.keys() {
		rec, _ := putRecord(all[key])
		recs = append(recs, rec)
	}
	return recs
}

// follow does what a record says, or passes it by.
func (all entries) follow(rec []byte) {
	f := &fields{from: wire.Over(rec)}
	switch f.number() {
	case kindPut:
		e := f.entry()
		if f.ended() && mayBe(e) && all.takes(e.Key) {
			all[e.Key] = e
		}
	case kindDelete:
		key := f.text(api.MaxKey)
		if f.ended() {
			delete(all, key)
		}
	}
}

// fields reads the parts of a record. Behind one that can't be read all further ones are empty.
type fields struct {
	from  *wire.Reader
	wrong bool
}

func (f *fields) number() int {
	if f.wrong {
		return 0
	}
	n, e := f.from.Uint()
	f.wrong = e != api.OK
	return n
}

func (f *fields) text(most int) string {
	if f.wrong {
		return ""
	}
	s, e := f.from.Text(most)
	f.wrong = e != api.OK
	return s
}

// numbers reads how many there are, which may be any number, and as many of them as there are bytes for.
func (f *fields) numbers() []int {
	var list []int
	for left := f.number(); left > 0 && !f.wrong; left-- {
		list = append(list, f.number())
	}
	return list
}

func (f *fields) entry() api.Entry {
	var e api.Entry
	e.Key = f.text(api.MaxKey)
	e.Program = f.text(longestProgram)
	e.Points = f.numbers()
	e.Fault = f.number()
	e.Picks = f.numbers()
	return e
}

// ended tells whether all was read, and nothing was wrong.
func (f *fields) ended() bool { return !f.wrong && f.from.End() == api.OK }
