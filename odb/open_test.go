package odb

import (
	"encoding/binary"
	"slices"
	"strings"
	"testing"

	"cartulary/api"
	"cartulary/pack"
	"cartulary/packidx"
)

const plainName = "0123456789abcdef0123456789abcdef01234567"

// pair: an index and a pack under a name.
func pair(name, idx, packed string) []api.File {
	return []api.File{{Path: Folder + "pack-" + name + ".idx", Data: idx}, {Path: Folder + "pack-" + name + ".pack", Data: packed}}
}

// turned: the text with a bit of a byte turned.
func turned(s string, at int) string {
	b := []byte(s)
	b[at] ^= 1
	return string(b)
}

// resummed: the text with its last 20 bytes made right.
func resummed(s string) string {
	return s[:len(s)-20] + summed(s[:len(s)-20])
}

// P13.1: there is one folder of packs.
func TestFolder(t *testing.T) {
	if Folder != "objects/pack/" {
		t.Errorf("Folder is %q", Folder)
	}
}

// P13.1: an index that Parse refuses, with that error, be the pack there or not.
func TestOpenIndex(t *testing.T) {
	p, _ := somePack()
	idx, packed := index(p.rows, p.sum()), p.text()
	many := []byte(idx)
	for i := range 256 {
		binary.BigEndian.PutUint32(many[8+4*i:], 1001)
	}
	for what, c := range map[string]struct {
		idx  string
		want api.Errno
	}{
		"empty":           {"", api.ErrEnd},
		"short":           {idx[:1071], api.ErrEnd},
		"without its end": {idx[:1072], api.ErrEnd},
		"another start":   {turned(idx, 0), api.ErrText},
		"a pack":          {packed + strings.Repeat("x", 1072), api.ErrText},
		"too many rows":   {string(many), api.ErrBig},
		"a byte more":     {idx + "x", api.ErrText},
		"a byte less":     {idx[:len(idx)-1], api.ErrEnd},
		"another sum":     {turned(idx, len(idx)-1), api.ErrSum},
		"another pack":    {turned(idx, len(idx)-21), api.ErrSum},
	} {
		if _, e := packidx.Parse(c.idx); e != c.want {
			t.Fatalf("%s: Parse: %d", what, e)
		}
		files := pair(plainName, c.idx, packed)
		opens(t, what, c.want, files...)
		opens(t, what+", no pack", c.want, files[0])
		opens(t, what+", no right pack", c.want, pair(plainName, c.idx, "PACK")...)
	}
	for at := range len(idx) {
		_, want := packidx.Parse(turned(idx, at))
		if want == api.OK {
			t.Fatalf("byte %d turned: Parse: OK", at)
		}
		opens(t, "a byte of the index turned", want, pair(plainName, turned(idx, at), packed)...)
	}
}

// P13.1: an index without its pack, though others are there.
func TestOpenAbsent(t *testing.T) {
	p, _ := somePack()
	files := p.files(plainName)
	opens(t, "both", api.OK, files...)
	opens(t, "no pack", api.ErrAbsent, files[0])
	opens(t, "a pack without index", api.OK, files[1])
	for _, path := range []string{
		Folder + "pack-" + plainName, Folder + "pack-" + plainName + ".PACK", Folder + "pack-" + plainName + ".pack.x",
		Folder + "pack-" + numbered(1) + ".pack", Folder + plainName + ".pack", "objects/pack-" + plainName + ".pack",
		"pack-" + plainName + ".pack", Folder + "pack-" + plainName + ".pack/x", Folder + "x/pack-" + plainName + ".pack",
	} {
		opens(t, path, api.ErrAbsent, files[0], api.File{Path: path, Data: files[1].Data})
	}
	// Ahead of what the rows and the sum say.
	opens(t, "no pack, no rows", api.ErrAbsent, api.File{Path: files[0].Path, Data: index(nil, numbered(0))})
}

// P13.1: a pack that Count refuses, with that error, ahead of rows and sums that aren't right.
func TestOpenPack(t *testing.T) {
	p, _ := somePack()
	packed := p.text()
	many := []byte(packed)
	binary.BigEndian.PutUint32(many[8:], 1001)
	for what, c := range map[string]struct {
		packed string
		want   api.Errno
	}{
		"empty":                    {"", api.ErrEnd},
		"short":                    {packed[:31], api.ErrEnd},
		"another start":            {turned(packed, 0), api.ErrText},
		"version 3":                {resummed(turned(packed, 7)), api.ErrText},
		"too many":                 {string(many), api.ErrBig},
		"too many, with their sum": {resummed(string(many)), api.ErrBig},
		"a byte more":              {packed + "x", api.ErrSum},
		"a byte less":              {packed[:len(packed)-1], api.ErrSum},
	} {
		if _, e := pack.Count(c.packed); e != c.want {
			t.Fatalf("%s: Count: %d", what, e)
		}
		opens(t, what, c.want, pair(plainName, index(p.rows, p.sum()), c.packed)...)
		opens(t, what+", fewer rows", c.want, pair(plainName, index(p.rows[:1], p.sum()), c.packed)...)
		opens(t, what+", another sum", c.want, pair(plainName, index(p.rows, numbered(0)), c.packed)...)
	}
	for at := range len(packed) {
		_, want := pack.Count(turned(packed, at))
		if want == api.OK {
			t.Fatalf("byte %d turned: Count: OK", at)
		}
		opens(t, "a byte of the pack turned", want, pair(plainName, index(p.rows, p.sum()), turned(packed, at))...)
	}
}

// P13.1: fewer or more rows than entries; that counts ahead of the sum.
func TestOpenRows(t *testing.T) {
	p, _ := somePack()
	more := append(slices.Clone(p.rows), packidx.Row{Id: numbered(1), At: 12})
	for n := range 5 {
		rows := more[:n]
		want := api.ErrForm
		if n == 3 {
			want = api.OK
		}
		opens(t, "other rows", want, pair(plainName, index(rows, p.sum()), p.text())...)
		if n != 3 {
			opens(t, "other rows and another sum", api.ErrForm, pair(plainName, index(rows, numbered(0)), p.text())...)
		}
	}
	none := &packing{}
	opens(t, "neither rows nor entries", api.OK, none.files(plainName)...)
	opens(t, "a row, no entry", api.ErrForm, pair(plainName, index(more[:1], none.sum()), none.text())...)
	full := &packing{}
	for i := range 1000 {
		full.add(numbered(i), "\x30"+framed(""))
	}
	opens(t, "1000 entries", api.OK, full.files(plainName)...)
	opens(t, "999 rows", api.ErrForm, pair(plainName, index(full.rows[1:], full.sum()), full.text())...)
}

// P13.1: an index whose sum is another pack's; what NAME is doesn't matter.
func TestOpenSum(t *testing.T) {
	p, _ := somePack()
	other := &packing{}
	for _, data := range []string{"a", "b", "c"} {
		other.whole(blob(data))
	}
	opens(t, "another pack's index", api.ErrSum, pair(plainName, index(other.rows, other.sum()), p.text())...)
	opens(t, "another pack's sum", api.ErrSum, pair(plainName, index(p.rows, other.sum()), p.text())...)
	opens(t, "another pack's rows", api.OK, pair(plainName, index(other.rows, p.sum()), p.text())...)
	for at := range 40 {
		sum := []byte(p.sum())
		sum[at] = "10"[sum[at]&1]
		if string(sum) != p.sum() {
			opens(t, "a digit of the sum", api.ErrSum, pair(plainName, index(p.rows, string(sum)), p.text())...)
		}
	}
	for _, name := range []string{p.sum(), other.sum(), numbered(0), strings.Repeat("f", 40)} {
		opens(t, "a pack under any name", api.OK, p.files(name)...)
	}
}

// P13.1: several indexes: the first that is wrong, in the order of the paths, however they are handed in.
func TestOpenSeveral(t *testing.T) {
	p, _ := somePack()
	low, mid, high := numbered(1), "a"+numbered(0)[1:], "f"+numbered(0)[1:]
	wrong := func(name string, e api.Errno) []api.File {
		switch e {
		case api.ErrAbsent:
			return p.files(name)[:1]
		case api.ErrForm:
			return pair(name, index(nil, p.sum()), p.text())
		case api.ErrSum:
			return pair(name, index(p.rows, numbered(0)), p.text())
		case api.ErrEnd:
			return pair(name, "", p.text())
		case api.ErrText:
			return pair(name, index(p.rows, p.sum()), turned(p.text(), 0))
		}
		return p.files(name)
	}
	all := []api.Errno{api.OK, api.ErrAbsent, api.ErrForm, api.ErrSum, api.ErrEnd, api.ErrText}
	for _, a := range all {
		for _, b := range all {
			for _, c := range all {
				want := a
				if want == api.OK {
					want = b
				}
				if want == api.OK {
					want = c
				}
				files := slices.Concat(wrong(high, c), wrong(low, a), wrong(mid, b))
				opens(t, "several", want, files...)
				slices.Reverse(files)
				opens(t, "several, the other way round", want, files...)
			}
		}
	}
}

// P13.1, P13.2: other files in that folder, and what only looks like an index, don't matter.
func TestOpenOthers(t *testing.T) {
	p, l := somePack()
	files := p.files(plainName)
	for _, path := range []string{
		"pack-" + plainName + ".keep", "pack-" + plainName + ".rev", "pack-" + numbered(1) + ".pack", "multi-pack-index", "x.idx", ".idx", "idx",
		"pack-.idx", "pack-" + plainName[:39] + ".idx", "pack-" + plainName + "0.idx", "pack-" + strings.ToUpper(plainName) + ".idx",
		"pack-" + plainName[:39] + "A.idx", "pack-" + plainName[:39] + "g.idx", "pack-" + plainName[:39] + " .idx", "pack-" + plainName[:38] + "-0.idx",
		"pack-" + numbered(1) + ".IDX", "pack-" + numbered(1) + ".idx2", "pack-" + numbered(1) + ".id", "pack-" + numbered(1) + "idx", "pack-" + numbered(1),
		"Pack-" + numbered(1) + ".idx", "packs-" + numbered(1) + ".idx", "pack" + numbered(1) + ".idx", numbered(1) + ".idx", "tmp-pack-" + numbered(1) + ".idx", " pack-" + numbered(1) + ".idx",
		"x/pack-" + numbered(1) + ".idx", "pack-" + numbered(1) + ".idx/x", "pack-" + numbered(1) + ".idx.idx", "pack-" + numbered(1) + ".idx/pack-" + numbered(2) + ".idx",
		"pack-/" + numbered(1)[1:] + ".idx", "pack-pack-" + numbered(1)[5:] + ".idx",
	} {
		other := api.File{Path: Folder + path, Data: "anything"}
		opens(t, path, api.OK, other)
		d := opened(t, append(files, other)...)
		if len(d.Names("")) != 3 {
			t.Errorf("%s: %q", path, d.Names(""))
		}
		for _, o := range l {
			has(t, path, d, o)
		}
	}
	for _, path := range []string{"objects/pack-" + plainName + ".idx", "pack-" + plainName + ".idx", "pack/pack-" + plainName + ".idx", "objects/packs/pack-" + plainName + ".idx", "Objects/pack/pack-" + plainName + ".idx", ".git/objects/pack/pack-" + plainName + ".idx"} {
		opens(t, path, api.OK, api.File{Path: path, Data: "anything"})
	}
}

// P13.1: Open asks for head, end and rows, not for the entries.
func TestOpenEntries(t *testing.T) {
	p := &packing{}
	p.add(numbered(1), "anything")
	p.add(numbered(2), "")
	p.rows[1].At = 1 << 40
	p.rows[0].Crc++
	d := of(t, p)
	names(t, d, "", numbered(1), numbered(2))
	fails(t, "a place that isn't there", d, numbered(2), api.ErrArg)
}
