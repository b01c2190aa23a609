package forge

import (
	"slices"
	"strings"

	"cartulary/api"
	"cartulary/loose"
	"cartulary/object"
	"cartulary/pack"
	"cartulary/packidx"
	"cartulary/refs"
	"cartulary/sums"
)

const (
	packFront = "objects/pack/pack-"
	sumBytes  = 20
	// noFar puts no place among the far ones that needn't stand there.
	noFar = 1 << 31
)

// kept: the files of objects with these names, in a style.
func kept(l []api.Object, ids []string, style int) ([]api.File, api.Errno) {
	var apart, together []api.Object
	var togetherIds []string
	for i, o := range l {
		if style == Apart || style == Mixed && i%2 == 0 {
			apart = append(apart, o)
		} else {
			together, togetherIds = append(together, o), append(togetherIds, ids[i])
		}
	}
	files, e := looseFiles(apart)
	if e != api.OK || style == Apart {
		return files, e
	}
	packed, e := packFiles(items(together, style == Deltas), togetherIds)
	if e != api.OK {
		return nil, e
	}
	return append(files, packed...), api.OK
}

// looseFiles: a file for each object. What is too much for a folder is told as soon as it is: no more of it is written.
func looseFiles(l []api.Object) ([]api.File, api.Errno) {
	if len(l) > api.MaxFiles {
		return nil, api.ErrBig
	}
	var files []api.File
	size := 0
	for _, o := range l {
		file, _ := loose.Write(o)
		size += len(file.Data)
		if size > api.MaxSnap {
			return nil, api.ErrBig
		}
		files = append(files, file)
	}
	return files, api.OK
}

// link is a pack's item: its number, and how many deltas lead from it to a whole object.
type link struct {
	number, deltas int
}

// items: what a pack of these objects is made of; with deltas, each of them is one on the last object of its kind, where it can be.
func items(l []api.Object, deltas bool) []pack.Item {
	var items []pack.Item
	last := map[int]link{}
	for i, o := range l {
		item, own := pack.Item{Object: o}, link{number: i}
		base, found := last[o.Kind]
		if deltas && found && base.deltas < api.MaxChain && deltaFits(o) {
			own.deltas = base.deltas + 1
			// By turns, so that both ways of telling a base are there.
			item = pack.Item{Object: o, Delta: true, Base: base.number, ByName: own.deltas%2 == 0}
		}
		last[o.Kind] = own
		items = append(items, item)
	}
	return items
}

// deltaFits: is there room in an entry for a delta of this object, on whatever base? It may need a byte for each 127 bytes, and ten more.
func deltaFits(o api.Object) bool {
	n := len(o.Data)
	return 10+n+(n+126)/127 <= object.MaxData
}

// packFiles: a pack of these items, which have these names, and its index.
func packFiles(items []pack.Item, ids []string) ([]api.File, api.Errno) {
	text, e := pack.Build(items)
	if e != api.OK {
		return nil, e
	}
	entries, e := pack.All(text)
	if e != api.OK {
		return nil, e
	}
	var rows []packidx.Row
	for i, x := range entries {
		rows = append(rows, packidx.Row{Id: ids[i], At: x.At, Crc: x.Crc})
	}
	sum := sums.Hex(text[len(text)-sumBytes:])
	index, e := packidx.Build(rows, sum, noFar)
	if e != api.OK {
		return nil, e
	}
	return []api.File{{Path: packFront + sum + ".idx", Data: index}, {Path: packFront + sum + ".pack", Data: text}}, api.OK
}

// reference is a name for an object; peeled is the commit to which its tag leads.
type reference struct {
	name, id, peeled string
}

// references: the files of branches, tags and HEAD.
func references(p Plan, m Made, packed bool) []api.File {
	var files []api.File
	if packed {
		files = []api.File{{Path: refs.Packed, Data: packedText(pointers(p, m))}}
	} else {
		for _, r := range pointers(p, m) {
			files = append(files, api.File{Path: r.name, Data: r.id + end})
		}
	}
	if p.Head != "" {
		files = append(files, api.File{Path: headPath, Data: headFront + branchFront + p.Head + end})
	}
	return files
}

// pointers: the references of a plan, by rising names.
func pointers(p Plan, m Made) []reference {
	var l []reference
	for _, n := range p.Branches {
		l = append(l, reference{name: branchFront + n.Name, id: m.Commits[n.Commit]})
	}
	for i, n := range p.Tags {
		r := reference{name: tagFront + n.Name, id: m.Tags[i]}
		if n.Note {
			r.peeled = m.Commits[n.Commit]
		}
		l = append(l, r)
	}
	slices.SortFunc(l, func(a, b reference) int { return strings.Compare(a.name, b.name) })
	return l
}

// packedText: references in one text.
func packedText(l []reference) string {
	text := packedHeader
	for _, r := range l {
		text += r.id + " " + r.name + end
		if r.peeled != "" {
			text += peeledFront + r.peeled + end
		}
	}
	return text
}
