package pack

import (
	"slices"

	"cartulary/api"
	"cartulary/delta"
	"cartulary/object"
	"cartulary/sha"
	"cartulary/sums"
	"cartulary/zlib"
)

// Item is what a pack is made of: an object, or a delta on the item number Base, told by its place or by its name.
type Item struct {
	Object api.Object
	Delta  bool
	Base   int
	ByName bool
}

// Build: the pack of these items.
func Build(items []Item) (string, api.Errno) {
	if len(items) > MaxEntries {
		return "", api.ErrBig
	}
	out := []byte(start + sums.Big(uint64(len(items)), numberBytes))
	places := make([]int, len(items))
	for i := range items {
		places[i] = len(out)
		entry, e := entryOf(items, i, places)
		if e != api.OK {
			return "", e
		}
		out = append(out, entry...)
	}
	return string(append(out, sha.Sum1(string(out))...)), api.OK
}

// entryOf: the entry of item i; the places of the items up to it are known.
func entryOf(items []Item, i int, places []int) (string, api.Errno) {
	item := items[i]
	o := item.Object
	if e := object.Check(o); e != api.OK {
		return "", e
	}
	if !item.Delta {
		return entryText(o.Kind, "", o.Data), api.OK
	}
	if item.Base < 0 || item.Base >= i {
		return "", api.ErrArg
	}
	base := items[item.Base].Object
	if base.Kind != o.Kind {
		return "", api.ErrKind
	}
	told := delta.Make(base.Data, o.Data)
	if len(told) > object.MaxData {
		return "", api.ErrBig
	}
	if item.ByName {
		return entryText(Named, rawName(base), told), api.OK
	}
	return entryText(Offset, farBack(places[i]-places[item.Base]), told), api.OK
}

// entryText: an entry's bytes; link is what leads to its base.
func entryText(kind int, link, data string) string {
	return opening(kind, len(data)) + link + zlib.Write(data)
}

// opening: kind and size in as few bytes as can be.
func opening(kind, size int) string {
	c := kind<<firstBits | size%(1<<firstBits)
	var b []byte
	for size >>= firstBits; size > 0; size >>= laterBits {
		b = append(b, byte(c|more))
		c = size % more
	}
	return string(append(b, byte(c)))
}

// farBack: how far back a base stands, in as few bytes as can be.
func farBack(n int) string {
	b := []byte{byte(n % more)}
	for n >>= laterBits; n > 0; n >>= laterBits {
		// Its reader adds one for each byte behind.
		n--
		b = append(b, byte(n%more|more))
	}
	slices.Reverse(b)
	return string(b)
}

// rawName: the bytes of the name of an object that was checked.
func rawName(o api.Object) string {
	id, _ := object.Id(o)
	name, _ := sums.Unhex(id)
	return name
}
