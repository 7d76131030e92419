package wal

import (
	"slices"

	"varve/api"
	"varve/label"
	"varve/match"
	"varve/pair"
	"varve/vint"
)

// PutRec puts a record behind b.
func PutRec(b []byte, r api.Rec) []byte {
	// Put together apart from b and then joined once: else a long b would be copied for each part.
	own := vint.Put(vint.PutInt(nil, r.Seq), uint64(r.Kind))
	switch r.Kind {
	case api.RecWrite:
		own = putRow(own, r.Row)
	case api.RecDelete:
		// What is of neither kind is put like a deletion: GetRec refuses it by the number of its kind.
		fallthrough
	default:
		own = putTomb(own, r.Tomb)
	}
	return slices.Concat(b, own)
}

// GetRec is the record that all of b is.
func GetRec(b []byte) (api.Rec, bool) {
	seq, at, ok := vint.GetInt(b, 0)
	if !ok {
		return api.Rec{}, false
	}
	kind, at, ok := vint.Get(b, at)
	if !ok {
		return api.Rec{}, false
	}
	r := api.Rec{Seq: seq, Kind: int(kind)}
	switch kind {
	case api.RecWrite:
		r.Row, at, ok = getRow(b, at)
	case api.RecDelete:
		r.Tomb, at, ok = getTomb(b, at)
		r.Tomb.Seq = seq
	default:
		ok = false
	}
	if !ok || at != len(b) {
		return api.Rec{}, false
	}
	return r, true
}

func putRow(b []byte, r api.Row) []byte {
	return pair.Put(vint.PutInt(label.Put(b, r.Labels), r.At), r.S)
}

// putTomb leaves out the Seq, which is the record's.
func putTomb(b []byte, t api.Tomb) []byte {
	return vint.PutInt(vint.PutInt(match.Put(b, t.M), t.From), t.To)
}

func getRow(b []byte, at int) (api.Row, int, bool) {
	labels, next, ok := label.Get(b, at)
	if !ok {
		return api.Row{}, 0, false
	}
	slot, next, ok := vint.GetInt(b, next)
	if !ok {
		return api.Row{}, 0, false
	}
	s, next, ok := pair.Get(b, next)
	if !ok {
		return api.Row{}, 0, false
	}
	return api.Row{Labels: labels, At: slot, S: s}, next, true
}

func getTomb(b []byte, at int) (api.Tomb, int, bool) {
	m, next, ok := match.Get(b, at)
	if !ok {
		return api.Tomb{}, 0, false
	}
	from, next, ok := vint.GetInt(b, next)
	if !ok {
		return api.Tomb{}, 0, false
	}
	to, next, ok := vint.GetInt(b, next)
	if !ok {
		return api.Tomb{}, 0, false
	}
	return api.Tomb{M: m, From: from, To: to}, next, true
}
