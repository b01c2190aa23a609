package odb

import (
	"bytes"
	stdzlib "compress/zlib"
	"crypto/sha1"
	"encoding/binary"
	"encoding/hex"
	"fmt"
	"hash/crc32"
	"math/rand"
	"slices"
	"strconv"
	"strings"
	"testing"

	"cartulary/api"
	"cartulary/packidx"
	"cartulary/snap"
)

var kindNames = map[int]string{1: "commit", 2: "tree", 3: "blob", 4: "tag"}

// textOf: an object's text by its words.
func textOf(o api.Object) string {
	return kindNames[o.Kind] + " " + strconv.Itoa(len(o.Data)) + "\x00" + o.Data
}

// summed: the SHA-1 of a text, by the library.
func summed(text string) string {
	sum := sha1.Sum([]byte(text))
	return string(sum[:])
}

// nameOf: an object's name.
func nameOf(o api.Object) string {
	return hex.EncodeToString([]byte(summed(textOf(o))))
}

// blob: an object with these bytes.
func blob(data string) api.Object {
	return api.Object{Kind: api.Blob, Data: data}
}

// numbered: a name that no object of these tests has.
func numbered(i int) string {
	return fmt.Sprintf("%040x", i)
}

// framer is made once: it is slow to make.
var framer = stdzlib.NewWriter(nil)

// framed: a frame of the library's making.
func framed(text string) string {
	var b bytes.Buffer
	framer.Reset(&b)
	framer.Write([]byte(text))
	framer.Close()
	return b.String()
}

// openingOf: an entry's kind and size.
func openingOf(kind, size int) string {
	b := []byte{byte(kind<<4 | size&15)}
	for size >>= 4; size > 0; size >>= 7 {
		b[len(b)-1] |= 128
		b = append(b, byte(size&127))
	}
	return string(b)
}

// backOf: how far back a base stands.
func backOf(n int) string {
	b := []byte{byte(n & 127)}
	for n >>= 7; n > 0; n >>= 7 {
		n--
		b = append([]byte{byte(n&127 | 128)}, b...)
	}
	return string(b)
}

// rawId: the bytes of a name.
func rawId(id string) string {
	b, err := hex.DecodeString(id)
	if err != nil {
		panic(err)
	}
	return string(b)
}

// packing is a pack that is being made, with the rows of its index.
type packing struct {
	entries string
	n       uint32
	rows    []packidx.Row
}

// add: the place of an entry of these bytes, which has a row of that name.
func (p *packing) add(id, entry string) int {
	at := 12 + len(p.entries)
	p.entries += entry
	p.n++
	p.rows = append(p.rows, packidx.Row{Id: id, At: at, Crc: crc32.ChecksumIEEE([]byte(entry))})
	return at
}

// whole adds an object's entry.
func (p *packing) whole(o api.Object) int {
	return p.add(nameOf(o), openingOf(o.Kind, len(o.Data))+framed(o.Data))
}

// offset adds a delta on the entry at a place.
func (p *packing) offset(id string, base int, d string) int {
	return p.add(id, openingOf(6, len(d))+backOf(12+len(p.entries)-base)+framed(d))
}

// named adds a delta on the object of a name.
func (p *packing) named(id, base, d string) int {
	return p.add(id, openingOf(7, len(d))+rawId(base)+framed(d))
}

// text: the pack's bytes.
func (p *packing) text() string {
	head := binary.BigEndian.AppendUint32([]byte("PACK\x00\x00\x00\x02"), p.n)
	s := string(head) + p.entries
	return s + summed(s)
}

// sum: the pack's sum, as digits.
func (p *packing) sum() string {
	s := p.text()
	return hex.EncodeToString([]byte(s[len(s)-20:]))
}

// index: the bytes of an index of these rows, of the pack with that sum.
func index(rows []packidx.Row, sum string) string {
	s, e := packidx.Build(rows, sum, 1<<31)
	if e != api.OK {
		panic(e)
	}
	return s
}

// files: the pack and its index, under a name.
func (p *packing) files(name string) []api.File {
	return []api.File{
		{Path: "objects/pack/pack-" + name + ".idx", Data: index(p.rows, p.sum())},
		{Path: "objects/pack/pack-" + name + ".pack", Data: p.text()},
	}
}

// fileAt: a file under a name that says an object.
func fileAt(id string, o api.Object) api.File {
	return api.File{Path: "objects/" + id[:2] + "/" + id[2:], Data: framed(textOf(o))}
}

// folderOf: a folder of these files.
func folderOf(t *testing.T, files ...api.File) *snap.Snap {
	t.Helper()
	s, e := snap.New(files)
	if e != api.OK {
		t.Fatalf("New: %d", e)
	}
	return s
}

// opened: the objects of these files.
func opened(t *testing.T, files ...api.File) *Odb {
	t.Helper()
	d, e := Open(folderOf(t, files...))
	if e != api.OK || d == nil {
		t.Fatalf("Open: %d", e)
	}
	return d
}

// of: the objects of one pack alone.
func of(t *testing.T, p *packing) *Odb {
	t.Helper()
	return opened(t, p.files(numbered(0))...)
}

// opens holds Open against what the document asks.
func opens(t *testing.T, what string, want api.Errno, files ...api.File) {
	t.Helper()
	d, e := Open(folderOf(t, files...))
	if e != want || (d != nil) != (e == api.OK) {
		t.Errorf("%s: Open: objects: %v, %d, not %d", what, d != nil, e, want)
	}
}

// gets holds Get, and Kind of each kind, against what the document asks.
func gets(t *testing.T, what string, d *Odb, id string, want api.Object, wantE api.Errno) {
	t.Helper()
	o, e := d.Get(id)
	if o != want || e != wantE {
		t.Errorf("%s: Get(%q): %d, %.40q, %d, not %d, %.40q, %d", what, id, o.Kind, o.Data, e, want.Kind, want.Data, wantE)
	}
	for _, kind := range []int{-1, 0, 1, 2, 3, 4, 5, 6, 7} {
		data, e := d.Kind(id, kind)
		switch {
		case wantE != api.OK:
			if data != "" || e != wantE {
				t.Errorf("%s: Kind(%q, %d): %.40q, %d, not %d", what, id, kind, data, e, wantE)
			}
		case kind != want.Kind:
			if data != "" || e != api.ErrKind {
				t.Errorf("%s: Kind(%q, %d): %.40q, %d, not ErrKind", what, id, kind, data, e)
			}
		case data != want.Data || e != api.OK:
			t.Errorf("%s: Kind(%q, %d): %.40q, %d", what, id, kind, data, e)
		}
	}
}

// has: Get answers the object by its name.
func has(t *testing.T, what string, d *Odb, o api.Object) {
	t.Helper()
	gets(t, what, d, nameOf(o), o, api.OK)
}

// fails: Get answers an error.
func fails(t *testing.T, what string, d *Odb, id string, want api.Errno) {
	t.Helper()
	gets(t, what, d, id, api.Object{}, want)
}

// names holds Names against what the document asks.
func names(t *testing.T, d *Odb, front string, want ...string) {
	t.Helper()
	if l := d.Names(front); !slices.Equal(l, want) {
		t.Errorf("Names(%q): %q, not %q", front, l, want)
	}
}

// resolves holds Resolve against what the document asks.
func resolves(t *testing.T, d *Odb, front, want string, wantE api.Errno) {
	t.Helper()
	if id, e := d.Resolve(front); id != want || e != wantE {
		t.Errorf("Resolve(%q): %q, %d, not %q, %d", front, id, e, want, wantE)
	}
}

// literal: a delta that tells a text without its base's help.
func literal(base int, text string) string {
	d := sizeOf(base) + sizeOf(len(text))
	for len(text) > 0 {
		n := min(len(text), 127)
		d += string([]byte{byte(n)}) + text[:n]
		text = text[n:]
	}
	return d
}

// appended: a delta that tells its base (of at most 65535 bytes) and a short text behind it.
func appended(base int, text string) string {
	return sizeOf(base) + sizeOf(base+len(text)) + string([]byte{0xb0, byte(base), byte(base >> 8), byte(len(text))}) + text
}

// sizeOf: a size of a delta.
func sizeOf(n int) string {
	b := []byte{byte(n & 127)}
	for n >>= 7; n > 0; n >>= 7 {
		b[len(b)-1] |= 128
		b = append(b, byte(n&127))
	}
	return string(b)
}

// somePack: a Blob and two deltas, on one another.
func somePack() (*packing, []api.Object) {
	p := &packing{}
	l := []api.Object{blob("one line\n"), blob("one line\nand more"), blob("one line\nand more, and yet more")}
	at := p.whole(l[0])
	at = p.offset(nameOf(l[1]), at, appended(len(l[0].Data), "and more"))
	p.offset(nameOf(l[2]), at, appended(len(l[1].Data), ", and yet more"))
	return p, l
}

// P13.1, P13.2: the document's first example.
func TestExample(t *testing.T) {
	p, l := somePack()
	d := of(t, p)
	var all []string
	for _, o := range l {
		has(t, "the example", d, o)
		id := nameOf(o)
		resolves(t, d, id[:4], id, api.OK)
		all = append(all, id)
	}
	slices.Sort(all)
	names(t, d, "", all...)
	files := p.files(p.sum())
	opens(t, "the example", api.OK, files...)
	opens(t, "an index without its pack", api.ErrAbsent, files[0])
	for _, at := range []int{13, 20, len(files[1].Data) - 1} {
		b := []byte(files[1].Data)
		b[at] ^= 1
		opens(t, "a byte turned", api.ErrSum, files[0], api.File{Path: files[1].Path, Data: string(b)})
	}
}

// P13.1: the document's second example: a file under a name whose bytes are another object, even beside a pack that has it.
func TestWrongFile(t *testing.T) {
	p, l := somePack()
	for i, o := range l {
		id := nameOf(o)
		d := opened(t, append(p.files(numbered(1)), fileAt(id, blob("another")))...)
		fails(t, "a file with another object", d, id, api.ErrSum)
		has(t, "another object of the pack", d, l[(i+1)%3])
		d = opened(t, fileAt(id, blob("another")))
		fails(t, "a file with another object alone", d, id, api.ErrSum)
		d = opened(t, append(p.files(numbered(1)), fileAt(id, api.Object{Kind: api.Tree, Data: o.Data}))...)
		fails(t, "a file of another kind", d, id, api.ErrSum)
	}
	id := nameOf(l[0])
	path := fileAt(id, l[0]).Path
	whole := framed(textOf(l[0]))
	for data, want := range map[string]api.Errno{
		"":                   api.ErrEnd,
		whole[:len(whole)-1]: api.ErrEnd,
		whole + "!":          api.ErrText,
		framed("blip 0\x00"): api.ErrKind,
		framed("blob 1\x00"): api.ErrEnd,
		framed("blob 0"):     api.ErrText,
		framed("blob 65001\x00" + strings.Repeat("a", 65001)): api.ErrBig,
	} {
		d := opened(t, append(p.files(numbered(1)), api.File{Path: path, Data: data})...)
		fails(t, "a wrong file", d, id, want)
	}
}

// P13.1: a right file answers, though a pack's entry of that name is wrong; files alone, packs alone.
func TestRightFile(t *testing.T) {
	o := blob("right")
	p := &packing{}
	p.add(nameOf(o), "\x50")
	d := opened(t, append(p.files(numbered(1)), fileAt(nameOf(o), o))...)
	has(t, "a file beside a wrong entry", d, o)
	fails(t, "the wrong entry alone", of(t, p), nameOf(o), api.ErrKind)
	var files []api.File
	var l []api.Object
	for kind := 1; kind <= 4; kind++ {
		for _, data := range []string{"", "x", strings.Repeat("long\n", 13000)} {
			o := api.Object{Kind: kind, Data: data}
			l, files = append(l, o), append(files, fileAt(nameOf(o), o))
		}
	}
	d = opened(t, files...)
	for _, o := range l {
		has(t, "files alone", d, o)
	}
	fails(t, "no such file", d, numbered(7), api.ErrAbsent)
	d = opened(t)
	for _, o := range l {
		fails(t, "no files", d, nameOf(o), api.ErrAbsent)
	}
	all := &packing{}
	for _, o := range l {
		all.whole(o)
	}
	d = of(t, all)
	for _, o := range l {
		has(t, "a pack alone", d, o)
	}
	fails(t, "no such row", d, numbered(7), api.ErrAbsent)
}

// P13.1: what isn't a name is loose.Read's ErrForm, whatever the packs have.
func TestGetNoName(t *testing.T) {
	p, l := somePack()
	d := of(t, p)
	id := nameOf(l[0])
	for _, s := range []string{"", id[:4], id[:39], id + "0", strings.ToUpper(id), " " + id, id + "\n", "g" + id[1:], id[:39] + "\x00", "../" + id[3:], strings.Repeat("é", 20)} {
		fails(t, "no name", d, s, api.ErrForm)
	}
}

// P13.1: a name that two packs have: the first one's entry counts, right or wrong.
func TestTwoPacks(t *testing.T) {
	o := blob("in both")
	right, wrong := &packing{}, &packing{}
	right.whole(o)
	wrong.add(nameOf(o), openingOf(3, 5)+framed("other"))
	low, high := numbered(1), "f"+numbered(1)[1:]
	has(t, "the first one is right", opened(t, append(right.files(low), wrong.files(high)...)...), o)
	fails(t, "the first one is wrong", opened(t, append(right.files(high), wrong.files(low)...)...), nameOf(o), api.ErrSum)
	has(t, "the first one is right, handed in behind", opened(t, append(wrong.files(high), right.files(low)...)...), o)
	only := &packing{}
	only.whole(blob("in one"))
	d := opened(t, append(only.files(low), right.files(high)...)...)
	has(t, "the second one alone has it", d, o)
	has(t, "the first one alone has it", d, blob("in one"))
	d = opened(t, slices.Concat(only.files(low), right.files(numbered(2)), wrong.files(high))...)
	has(t, "the second of three", d, o)
}

// P13.1, P13.2: what is kept is what was handed in at Open; answers are new memory and don't change.
func TestStandsStill(t *testing.T) {
	p, l := somePack()
	loose := blob("in a file")
	files := append(p.files(numbered(1)), fileAt(nameOf(loose), loose))
	s := folderOf(t, files...)
	d, _ := Open(s)
	if s.Len() != 3 {
		t.Errorf("the folder has %d files", s.Len())
	}
	*s = snap.Snap{}
	clear(files)
	for _, o := range append(l, loose) {
		has(t, "behind a change of the folder", d, o)
	}
	one := d.Names("")
	kept := slices.Clone(one)
	two := d.Names("")
	clear(one)
	_ = append(one[:0], "x", "y", "z", "a")
	if !slices.Equal(two, kept) || !slices.Equal(d.Names(""), kept) || len(kept) != 4 {
		t.Errorf("Names: %q, %q, not %q", two, d.Names(""), kept)
	}
	for range 3 {
		for _, o := range l {
			has(t, "again", d, o)
			resolves(t, d, nameOf(o)[:20], nameOf(o), api.OK)
		}
	}
	if empty := opened(t).Names(""); len(empty) != 0 {
		t.Errorf("Names of no files: %q", empty)
	}
}

// someRandom: n random bytes.
func someRandom(random *rand.Rand, n int) string {
	b := make([]byte, n)
	random.Read(b)
	return string(b)
}
