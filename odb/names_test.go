package odb

import (
	"fmt"
	"math/rand"
	"slices"
	"strings"
	"testing"

	"cartulary/api"
)

// rowsAlone: a pack whose entries say nothing, with rows of these names.
func rowsAlone(ids ...string) *packing {
	p := &packing{}
	for _, id := range ids {
		p.add(id, "\x50")
	}
	return p
}

// P13.2: names of files and of indexes, those that stand in a file and in an index, and in two, once.
func TestNames(t *testing.T) {
	a, b, c, e := "aaaa"+numbered(1)[4:], "aaab"+numbered(2)[4:], "aab0"+numbered(3)[4:], "b000"+numbered(4)[4:]
	first, second := rowsAlone(c, a), rowsAlone(e, a)
	files := append(append(first.files(numbered(1)), second.files(numbered(2))...), fileAt(b, blob("")), fileAt(c, blob("")))
	d := opened(t, files...)
	names(t, d, "", a, b, c, e)
	names(t, d, "a", a, b, c)
	names(t, d, "aa", a, b, c)
	names(t, d, "aaa", a, b)
	names(t, d, "aaaa", a)
	names(t, d, "aaab", b)
	names(t, d, "aab", c)
	names(t, d, "b", e)
	for _, id := range []string{a, b, c, e} {
		names(t, d, id, id)
		names(t, d, id[:39], id)
		names(t, d, id+"0")
		names(t, d, strings.ToUpper(id))
	}
	for _, front := range []string{"A", "AAAA", "g", "c", "aaac", "0", "\x00", "a\x00", " ", " a", "a ", "objects/", "/", "é", numbered(1), strings.Repeat("a", 1000)} {
		names(t, d, front)
	}
	names(t, opened(t, files[:4]...), "", a, c, e)
	names(t, opened(t, files[:5]...), "", a, b, c, e)
	names(t, opened(t, files[4:]...), "", b, c)
	names(t, opened(t, files[:2]...), "", a, c)
	names(t, opened(t), "")
}

// P13.2: a name has a file or a row, whatever these say; other files have none.
func TestNamesOfAnything(t *testing.T) {
	wrong := api.File{Path: "objects/ab/" + numbered(1)[2:], Data: "no object"}
	d := opened(t, append(rowsAlone(numbered(7)).files(numbered(1)), wrong,
		api.File{Path: "objects/AB/" + numbered(1)[2:]}, api.File{Path: "objects/a/" + numbered(1)[1:]}, api.File{Path: "objects/" + numbered(1)},
		api.File{Path: "objects/cd/" + numbered(1)[3:]}, api.File{Path: "objects/cd/" + numbered(1)[1:]}, api.File{Path: "objects/info/packs"},
		api.File{Path: "ef/" + numbered(1)[2:]}, api.File{Path: "x/objects/ef/" + numbered(1)[2:]}, api.File{Path: "HEAD"})...)
	names(t, d, "", numbered(7), "ab"+numbered(1)[2:])
	fails(t, "a wrong file", d, "ab"+numbered(1)[2:], api.ErrText)
	resolves(t, d, "ab00", "ab"+numbered(1)[2:], api.OK)
	resolves(t, d, "0000", numbered(7), api.OK)
}

// P13.2: 3, 4, 40 and 41 digits, and all between.
func TestResolveLength(t *testing.T) {
	ids := []string{"0123456789abcdef0123456789abcdef01234567", "fedcba9876543210fedcba9876543210fedcba98"}
	inPack := of(t, rowsAlone(ids...))
	inFiles := opened(t, fileAt(ids[0], blob("")), fileAt(ids[1], blob("")))
	for _, d := range []*Odb{inPack, inFiles} {
		for _, id := range ids {
			for n := range 41 {
				if n < 4 {
					resolves(t, d, id[:n], "", api.ErrForm)
					continue
				}
				resolves(t, d, id[:n], id, api.OK)
			}
			resolves(t, d, id+"0", "", api.ErrForm)
			resolves(t, d, id+id, "", api.ErrForm)
		}
	}
}

// P13.2: small hexadecimal digits alone, which counts ahead of whether there is such a name.
func TestResolveDigits(t *testing.T) {
	id := "0123456789abcdef0123456789abcdef01234567"
	for _, d := range []*Odb{of(t, rowsAlone(id)), opened(t)} {
		for _, n := range []int{4, 5, 20, 39, 40} {
			for at := range n {
				for c := range 256 {
					front := []byte(id[:n])
					front[at] = byte(c)
					if strings.IndexByte("0123456789abcdef", byte(c)) < 0 {
						resolves(t, d, string(front), "", api.ErrForm)
					}
				}
			}
		}
		for _, front := range []string{"", "a", "zzz", "zzzz", "ABCD", "0123456789ABCDEF", "0123 ", " 0123", "0123\n", "HEAD", "v1.0.0", "é", "éé", strings.Repeat("z", 40), strings.Repeat("0", 41), strings.Repeat("0", 1000)} {
			resolves(t, d, front, "", api.ErrForm)
		}
	}
}

// P13.2: no such name, one, several; a name that stands in several places is one.
func TestResolve(t *testing.T) {
	a, b, c := "aaaa0"+numbered(1)[5:], "aaaa1"+numbered(2)[5:], "cccc0"+numbered(3)[5:]
	first, second := rowsAlone(a, c), rowsAlone(c)
	d := opened(t, append(append(first.files(numbered(1)), second.files(numbered(2))...), fileAt(b, blob("")), fileAt(c, blob("")))...)
	resolves(t, d, "aaaa", "", api.ErrDouble)
	resolves(t, d, "aaaa0", a, api.OK)
	resolves(t, d, "aaaa1", b, api.OK)
	resolves(t, d, "cccc", c, api.OK)
	resolves(t, d, c, c, api.OK)
	resolves(t, d, "aaaa2", "", api.ErrAbsent)
	resolves(t, d, "bbbb", "", api.ErrAbsent)
	resolves(t, d, a[:39]+"2", "", api.ErrAbsent)
	resolves(t, d, numbered(1), "", api.ErrAbsent)
	resolves(t, opened(t), "0000", "", api.ErrAbsent)
	last := of(t, rowsAlone(numbered(1), numbered(2)))
	resolves(t, last, numbered(1)[:39], "", api.ErrDouble)
	resolves(t, last, numbered(1), numbered(1), api.OK)
	three := opened(t, fileAt(a, blob("")), fileAt(b, blob("")), fileAt("aaaa2"+numbered(3)[5:], blob("")))
	resolves(t, three, "aaaa", "", api.ErrDouble)
}

// P13.2: random names in files and indexes, against the words.
func TestNamesRandom(t *testing.T) {
	random := rand.New(rand.NewSource(13))
	for range 60 {
		var pool []string
		for range 40 {
			pool = append(pool, fmt.Sprintf("%04x%036x", random.Intn(60)*273, random.Intn(3)))
		}
		pick := func() []string {
			var l []string
			for range random.Intn(15) {
				l = append(l, pool[random.Intn(len(pool))])
			}
			slices.Sort(l)
			return slices.Compact(l)
		}
		var files []api.File
		var all []string
		for i := range random.Intn(4) {
			ids := pick()
			all = append(all, ids...)
			files = append(files, rowsAlone(ids...).files(numbered(i))...)
		}
		ids := pick()
		all = append(all, ids...)
		for _, id := range ids {
			files = append(files, fileAt(id, blob(id)))
		}
		slices.Sort(all)
		all = slices.Compact(all)
		d := opened(t, files...)
		for range 100 {
			id := pool[random.Intn(len(pool))]
			namesByWords(t, d, all, id[:random.Intn(41)])
		}
	}
}

// namesByWords holds Names and Resolve against all names that there are.
func namesByWords(t *testing.T, d *Odb, all []string, front string) {
	t.Helper()
	var want []string
	for _, id := range all {
		if strings.HasPrefix(id, front) {
			want = append(want, id)
		}
	}
	names(t, d, front, want...)
	switch {
	case len(front) < 4:
		resolves(t, d, front, "", api.ErrForm)
	case len(want) == 0:
		resolves(t, d, front, "", api.ErrAbsent)
	case len(want) > 1:
		resolves(t, d, front, "", api.ErrDouble)
	default:
		resolves(t, d, front, want[0], api.OK)
	}
}

// P13.2: as many rows and files as there may be.
func TestNamesMany(t *testing.T) {
	var ids, filed []string
	var files []api.File
	for i := range 1000 {
		ids = append(ids, numbered(2*i))
		filed = append(filed, numbered(3*i))
		files = append(files, fileAt(numbered(3*i), blob("")))
	}
	d := opened(t, append(rowsAlone(ids...).files(numbered(0)), files...)...)
	all := append(ids, filed...)
	slices.Sort(all)
	names(t, d, "", slices.Compact(all)...)
}
