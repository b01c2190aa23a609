package odb

import (
	"slices"

	"cartulary/api"
	"cartulary/delta"
	"cartulary/object"
	"cartulary/pack"
	"cartulary/packidx"
	"cartulary/snap"
	"cartulary/sums"
)

const (
	// indexFront stands ahead of the name in the paths of an index and of its pack.
	indexFront = Folder + "pack-"
	indexEnd   = ".idx"
	packEnd    = ".pack"
	// sumBytes of a pack's end are its sum.
	sumBytes = 20
)

// packed is a pack with its index.
type packed struct {
	*packidx.Idx
	text string
}

// open: the pack of a name for which there is an index; the two have to belong together.
func open(s *snap.Snap, name string) (packed, api.Errno) {
	index, e := s.Get(indexFront + name + indexEnd)
	if e != api.OK {
		return packed{}, e
	}
	x, e := packidx.Parse(index)
	if e != api.OK {
		return packed{}, e
	}
	text, e := s.Get(indexFront + name + packEnd)
	if e != api.OK {
		return packed{}, e
	}
	n, e := pack.Count(text)
	if e != api.OK {
		return packed{}, e
	}
	p := packed{Idx: x, text: text}
	if p.Len() != n {
		return packed{}, api.ErrForm
	}
	if p.Sum() != sums.Hex(text[len(text)-sumBytes:]) {
		return packed{}, api.ErrSum
	}
	return p, api.OK
}

// object: what a row's entry tells, all deltas undone; it has the row's name.
func (p *packed) object(row packidx.Row) (api.Object, api.Errno) {
	x, deltas, e := p.chain(row)
	if e != api.OK {
		return api.Object{}, e
	}
	o := api.Object{Kind: x.Kind, Data: x.Data}
	for _, d := range slices.Backward(deltas) {
		o.Data, e = delta.Apply(o.Data, d, object.MaxData)
		if e != api.OK {
			return api.Object{}, e
		}
	}
	// The index only claims the name: whoever wrote it chose the place too.
	if id, _ := object.Id(o); id != row.Id {
		return api.Object{}, api.ErrSum
	}
	return o, api.OK
}

// chain: the entry that tells an object whole, and the deltas between it and the row's own entry, that one's first.
func (p *packed) chain(row packidx.Row) (pack.Entry, []string, api.Errno) {
	var deltas []string
	x, e := p.entry(row)
	for e == api.OK && isDelta(x) {
		// Bases that lead round to themselves end here too.
		if len(deltas) == api.MaxChain {
			return pack.Entry{}, nil, api.ErrCycle
		}
		deltas = append(deltas, x.Data)
		x, e = p.base(x)
	}
	if e != api.OK {
		return pack.Entry{}, nil, e
	}
	return x, deltas, api.OK
}

// entry: the one of a row, if it has the sum that the row says.
func (p *packed) entry(row packidx.Row) (pack.Entry, api.Errno) {
	x, e := pack.Read(p.text, row.At)
	if e != api.OK {
		return pack.Entry{}, e
	}
	if x.Crc != row.Crc {
		return pack.Entry{}, api.ErrSum
	}
	return x, api.OK
}

// isDelta: does an entry tell its object by another one?
func isDelta(x pack.Entry) bool {
	return x.Kind == pack.Offset || x.Kind == pack.Named
}

// base: the entry that a delta is told by. A name is looked for in this pack alone.
func (p *packed) base(x pack.Entry) (pack.Entry, api.Errno) {
	if x.Kind == pack.Offset {
		return pack.Read(p.text, x.Base)
	}
	row, e := p.Find(x.Id)
	if e != api.OK {
		return pack.Entry{}, e
	}
	return p.entry(row)
}
