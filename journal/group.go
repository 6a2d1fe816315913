package journal

import (
	"dredger/api"
	"dredger/wire"
)

// refused is the error of records that can't be: of an empty one, or of one that is too long. The first one of all records counts.
func refused(recs [][]byte) api.Errno {
	for _, rec := range recs {
		if len(rec) == 0 {
			return api.ErrArg
		}
	}
	for _, rec := range recs {
		if len(rec) > api.MaxRecord {
			return api.ErrLong
		}
	}
	return api.OK
}

// asText is a record as a text of wire.
func asText(rec []byte) []byte { return wire.Text(nil, string(rec)) }

// joined is records as texts, one behind the other; false, if these have more than most bytes.
func joined(recs [][]byte, most int) ([]byte, bool) {
	var load []byte
	for _, rec := range recs {
		load = append(load, asText(rec)...)
		if len(load) > most {
			return nil, false
		}
	}
	return load, true
}

// need is how many sectors so many bytes of load take.
func need(size int) int { return (size + api.Load - 1) / api.Load }

// records are those of a group's load; none, if it is not texts of records alone.
func records(load []byte) [][]byte {
	var recs [][]byte
	r := wire.Over(load)
	for r.Left() > 0 {
		text, e := r.Text(api.MaxRecord)
		if e != api.OK || text == "" {
			return nil
		}
		recs = append(recs, []byte(text))
	}
	return recs
}
