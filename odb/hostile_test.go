package odb

import (
	"math/rand"
	"regexp"
	"slices"
	"testing"

	"cartulary/api"
	"cartulary/delta"
	"cartulary/loose"
	"cartulary/pack"
	"cartulary/packidx"
	"cartulary/snap"
)

var indexPath = regexp.MustCompile(`^(objects/pack/pack-[0-9a-f]{40})\.idx\z`)

// getByWords: Get by the document's words, of a folder that Open doesn't refuse.
func getByWords(s *snap.Snap, id string) (api.Object, api.Errno) {
	if o, e := loose.Read(s, id); e != api.ErrAbsent {
		return o, e
	}
	for _, path := range s.Under("") {
		m := indexPath.FindStringSubmatch(path)
		if m == nil {
			continue
		}
		idx, _ := s.Get(path)
		x, _ := packidx.Parse(idx)
		row, e := x.Find(id)
		if e != api.OK {
			continue
		}
		text, _ := s.Get(m[1] + ".pack")
		o, e := told(x, text, row.At, &row.Crc, 0)
		if e == api.OK && nameOf(o) != id {
			e = api.ErrSum
		}
		if e != api.OK {
			return api.Object{}, e
		}
		return o, api.OK
	}
	return api.Object{}, api.ErrAbsent
}

// told: what the entry at a place tells, behind so many deltas; nil: its Crc isn't asked.
func told(x *packidx.Idx, text string, at int, crc *uint32, deltas int) (o api.Object, e api.Errno) {
	entry, e := pack.Read(text, at)
	if e != api.OK {
		return o, e
	}
	if crc != nil && entry.Crc != *crc {
		return o, api.ErrSum
	}
	if entry.Kind <= 4 {
		return api.Object{Kind: entry.Kind, Data: entry.Data}, api.OK
	}
	if deltas >= 12 {
		return o, api.ErrCycle
	}
	if entry.Kind == 6 {
		o, e = told(x, text, entry.Base, nil, deltas+1)
	} else {
		row, absent := x.Find(entry.Id)
		if absent != api.OK {
			return o, api.ErrAbsent
		}
		o, e = told(x, text, row.At, &row.Crc, deltas+1)
	}
	if e != api.OK {
		return api.Object{}, e
	}
	o.Data, e = delta.Apply(o.Data, entry.Data, 65000)
	return o, e
}

// dice makes folders of which much is wrong.
type dice struct {
	*rand.Rand
	pool []api.Object
}

// one: does it happen, once in n times?
func (r dice) one(n int) bool {
	return r.Intn(n) == 0
}

// object: one of the pool.
func (r dice) object() api.Object {
	return r.pool[r.Intn(len(r.pool))]
}

// name: of one of the pool, or of none.
func (r dice) name() string {
	if r.one(8) {
		return numbered(r.Intn(4))
	}
	return nameOf(r.object())
}

// delta: one that makes an object of another, or that is wrong.
func (r dice) delta(base, o api.Object) string {
	d := []byte(delta.Make(base.Data, o.Data))
	switch {
	case r.one(12):
		return string(d[:r.Intn(len(d)+1)])
	case r.one(12):
		d[r.Intn(len(d))] ^= 1 << r.Intn(8)
	case r.one(20):
		return sizeOf(len(base.Data)) + sizeOf(65001)
	}
	return string(d)
}

// pack: up to 30 entries, told by one another, and by what isn't there.
func (r dice) pack() *packing {
	p := &packing{}
	var places []int
	var objects []api.Object
	for range 1 + r.Intn(30) {
		o := r.object()
		id := nameOf(o)
		if slices.ContainsFunc(p.rows, func(row packidx.Row) bool { return row.Id == id }) {
			id = numbered(100 + len(p.rows))
		} else if r.one(20) {
			id = numbered(200 + len(p.rows))
		}
		at := 12 + len(p.entries)
		i := r.Intn(len(places) + 1)
		switch {
		case i == len(places) || r.one(6):
			p.add(id, openingOf(o.Kind, len(o.Data))+framed(o.Data))
		case r.one(2):
			// Mostly the next one, for long chains.
			if r.one(2) {
				i = len(places) - 1
			}
			p.offset(id, places[i], r.delta(objects[i], o))
		case r.one(2):
			p.named(id, p.rows[i].Id, r.delta(objects[i], o))
		default:
			base := r.object()
			p.named(id, nameOf(base), r.delta(base, o))
		}
		places, objects = append(places, at), append(objects, o)
	}
	for i := range p.rows {
		switch {
		case r.one(30):
			p.rows[i].Crc++
		case r.one(30):
			p.rows[i].At += r.Intn(5) - 2
		case r.one(40):
			p.rows[i].At = r.Intn(12 + len(p.entries) + 40)
		}
	}
	if r.one(4) {
		b := []byte(p.entries)
		b[r.Intn(len(b))] ^= 1 << r.Intn(8)
		p.entries = string(b)
	}
	return p
}

// folder: some packs, some files, right and wrong.
func (r dice) folder() []api.File {
	var files []api.File
	for i := range r.Intn(4) {
		files = append(files, r.pack().files(numbered(i))...)
	}
	for _, o := range r.pool {
		switch {
		case r.one(12):
			files = append(files, fileAt(nameOf(o), o))
		case r.one(25):
			files = append(files, fileAt(nameOf(o), blob("wrong")))
		case r.one(25):
			files = append(files, api.File{Path: fileAt(nameOf(o), o).Path, Data: "wrong"})
		}
	}
	return files
}

// P13.1, P13.3: whatever the files are, Get answers as the document says, and nothing that hasn't the name.
func TestHostile(t *testing.T) {
	r := dice{Rand: rand.New(rand.NewSource(7))}
	counted := map[api.Errno]int{}
	for range 300 {
		r.pool = nil
		text := someRandom(r.Rand, 40)
		for range 12 {
			kind := 3
			if r.one(6) {
				kind = 1 + r.Intn(4)
			}
			text = text[r.Intn(10):] + someRandom(r.Rand, 1+r.Intn(20))
			r.pool = append(r.pool, api.Object{Kind: kind, Data: text})
		}
		s := folderOf(t, r.folder()...)
		d, e := Open(s)
		if e != api.OK {
			t.Fatalf("Open: %d", e)
		}
		for _, id := range append(d.Names(""), r.name(), r.name(), numbered(3)) {
			want, wantE := getByWords(s, id)
			counted[wantE]++
			gets(t, "hostile", d, id, want, wantE)
			if o, e := d.Get(id); e == api.OK && nameOf(o) != id {
				t.Errorf("Get(%q) has the name %q", id, nameOf(o))
			}
		}
	}
	for _, e := range []api.Errno{api.OK, api.ErrArg, api.ErrBig, api.ErrText, api.ErrForm, api.ErrSum, api.ErrEnd, api.ErrAbsent, api.ErrCycle, api.ErrKind} {
		if counted[e] < 3 {
			t.Errorf("only %d times %d", counted[e], e)
		}
	}
	if counted[api.OK] < 1000 {
		t.Errorf("only %d objects", counted[api.OK])
	}
}

// P13.3: each byte of a pack turned, with sums made right again: Get answers what has the name, or an error.
func TestTurned(t *testing.T) {
	p, l := chained(4, func(i int) bool { return i%2 == 0 })
	right := 0
	entries := p.entries
	for at := range len(entries) {
		for _, bit := range []byte{1, 16, 128} {
			b := []byte(entries)
			b[at] ^= bit
			p.entries = string(b)
			s := folderOf(t, p.files(numbered(0))...)
			d, e := Open(s)
			if e != api.OK {
				t.Fatalf("Open: %d", e)
			}
			for _, o := range l {
				want, wantE := getByWords(s, nameOf(o))
				if wantE == api.OK {
					right++
					want = o
				}
				gets(t, "a byte turned", d, nameOf(o), want, wantE)
			}
		}
	}
	if right == 0 {
		t.Error("nothing was right any more")
	}
}
