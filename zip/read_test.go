package zip

import (
	"fmt"
	"slices"
	"strings"
	"testing"

	"cartulary/api"
)

// Where things stand in a local part, in a central head and in the end.
const (
	inLocal, inCentral = 4, 6 // the facts
	methodAt           = 4    // within the facts
	crcAt              = 10
	followAt           = 14
	sizeAt             = 18
	lengthAt           = 22
	factsSize          = 26
	placeAt            = 42
	localSize          = 30
	centralSize        = 46
)

// sample: files of which the first and the last are stored, the second deflated.
func sample() []piece {
	return []piece{plain("a", "hi"), squeezed("b/c", "hello hello hello hello"), plain("b/d", "")}
}

// isFixed: is the byte at a place of a head's facts fixed?
func isFixed(at int) bool {
	return at < methodAt || at >= methodAt+2 && at < crcAt || at >= lengthAt+2
}

// P23.2: the document's examples.
func TestReadExamples(t *testing.T) {
	s := archive(plain("a", "hi"))
	reads(t, "an archive", s, api.OK, api.File{Path: "a", Data: "hi"})
	reads(t, "nothing", "PK\x05\x06"+strings.Repeat("\x00", 18), api.OK)
	for bit := range 8 {
		for i := range 2 {
			reads(t, "a byte of hi turned", put(s, 31+i, raw(s[31+i]^1<<bit)), api.ErrSum)
		}
	}
	other := plain("a", "hi")
	other.method = 9
	reads(t, "method 9", archive(other), api.ErrKind)
	reads(t, "method 12 in the local part alone", put(s, inLocal+methodAt, "\x0c"), api.ErrText)
	pieces := sample()
	reads(t, "a sample", archive(pieces...), api.OK, filesIn(t, pieces...)...)
}

// P23.2: fewer than 22 bytes, and other bytes ahead of an archive.
func TestReadShort(t *testing.T) {
	whole := archive(sample()...)
	for n := range 22 {
		reads(t, "a beginning", whole[:n], api.ErrEnd)
		reads(t, "an end", whole[len(whole)-n:], api.ErrEnd)
		reads(t, "noughts", strings.Repeat("\x00", n), api.ErrEnd)
		reads(t, "an empty archive's end", ending22(0, 0, 0, 0)[22-n:], api.ErrEnd)
	}
	for n := 22; n < len(whole); n++ {
		reads(t, "a beginning", whole[:n], api.ErrText)
		reads(t, "an end", whole[len(whole)-n:], api.ErrText)
	}
	for _, front := range []string{"x", "PK\x03\x04", whole} {
		reads(t, "bytes ahead", front+whole, api.ErrText)
		reads(t, "bytes behind", whole+front[:1], api.ErrText)
		reads(t, "bytes ahead of an empty one", front+ending22(0, 0, 0, 0), api.ErrText)
		reads(t, "bytes ahead of an empty one that are told", front+ending22(0, 0, 0, len(front)), api.ErrText)
		reads(t, "bytes told as heads", front+ending22(0, 0, len(front), 0), api.ErrText)
	}
}

// longWay: a deflated file that says data; its stream has so many bytes.
func longWay(t *testing.T, path, data string, size int) piece {
	t.Helper()
	x := squeezed(path, data)
	// Empty stored blocks say nothing in 5 bytes each; a fixed block ahead of one ends it a byte later.
	const stored, late = "\x00\x00\x00\xff\xff", "\x02\x00\x00\x00\xff\xff"
	left := size - len(x.follow)
	if left < 25 {
		t.Fatalf("%d bytes are too few", size)
	}
	x.follow = strings.Repeat(late, left%5) + strings.Repeat(stored, (left-left%5*6)/5) + x.follow
	if len(x.follow) != size {
		t.Fatalf("%d bytes, not %d", len(x.follow), size)
	}
	return x
}

// P23.2: more than 2 * 1048576 bytes, ahead of all else; just as many may be an archive.
func TestReadLong(t *testing.T) {
	const most = 2 * 1048576
	around := len(archive(plain("a", "")))
	x := longWay(t, "a", "some data", most-around)
	if s := archive(x); len(s) != most {
		t.Fatalf("%d bytes", len(s))
	}
	reads(t, "the most bytes", archive(x), api.OK, api.File{Path: "a", Data: "some data"})
	reads(t, "one more", archive(longWay(t, "a", "some data", most-around+1)), api.ErrBig)
	reads(t, "one more, ahead", "x"+archive(x), api.ErrBig)
	reads(t, "noughts", strings.Repeat("\x00", most), api.ErrText)
	reads(t, "noughts, one more", strings.Repeat("\x00", most+1), api.ErrBig)
	reads(t, "an end, one more byte", strings.Repeat("\x00", most-21)+ending22(0, 0, 0, most-21), api.ErrBig)
	reads(t, "an end", strings.Repeat("\x00", most-22)+ending22(0, 0, 0, most-22), api.ErrText)
}

// P23.2: each fixed byte of the end, unlike counts, another place or length of the central heads, 601 files.
func TestReadEnd(t *testing.T) {
	pieces := sample()
	for _, s := range []string{archive(pieces...), archive()} {
		at := len(s) - 22
		for i := range 22 {
			for c := range 256 {
				// Each byte counts: no other end stands there.
				if turned := put(s, at+i, raw(byte(c))); turned != s {
					reads(t, fmt.Sprint("byte ", i, " of the end"), turned, api.ErrText)
				}
			}
		}
	}
	locals, heads := laid(pieces...)
	ends := func(what string, count, again, size, first int, want api.Errno) {
		t.Helper()
		reads(t, what, locals+heads+ending22(count, again, size, first), want)
	}
	ends("unlike counts", 3, 2, len(heads), len(locals), api.ErrText)
	ends("unlike counts, one above 600", 3, 601, len(heads), len(locals), api.ErrText)
	ends("unlike counts, both above 600", 601, 602, len(heads), len(locals), api.ErrText)
	ends("another length", 3, 3, len(heads)-1, len(locals), api.ErrText)
	ends("another length", 3, 3, len(heads)+1, len(locals), api.ErrText)
	ends("another place", 3, 3, len(heads), len(locals)-1, api.ErrText)
	ends("another place", 3, 3, len(heads), len(locals)+1, api.ErrText)
	ends("another place, 601 files", 601, 601, len(heads), len(locals)+1, api.ErrText)
	ends("a length of 4 bytes full", 3, 3, 1<<32-1, len(locals), api.ErrText)
	ends("together 2^32 more", 3, 3, 1<<32-1, len(locals)+len(heads)+1, api.ErrText)
	ends("together 2^32 more, 2^31 each", 3, 3, 1<<31, 1<<31+len(locals)+len(heads), api.ErrText)
	ends("both a byte earlier", 3, 3, len(heads)+1, len(locals)-1, api.ErrText)
	ends("all as heads", 3, 3, len(heads)+len(locals), 0, api.ErrText)
	ends("no heads", 3, 3, 0, len(locals)+len(heads), api.ErrEnd)
	ends("no heads, and no count", 0, 0, 0, len(locals)+len(heads), api.ErrText)
	ends("600 files", 600, 600, len(heads), len(locals), api.ErrEnd)
	for _, n := range []int{601, 602, 1024, 65535} {
		ends("too many files", n, n, len(heads), len(locals), api.ErrBig)
		reads(t, "too many files, and nothing else", ending22(n, n, 0, 0), api.ErrBig)
	}
}

// P23.2: 600 files, and 601 that would be right.
func TestReadMany(t *testing.T) {
	var pieces []piece
	for i := range 601 {
		x := plain(fmt.Sprintf("f%03d", i), "x")
		if i%2 == 0 {
			x = squeezed(x.path, "yy")
		}
		pieces = append(pieces, x)
	}
	reads(t, "600 files", archive(pieces[:600]...), api.OK, filesIn(t, pieces[:600]...)...)
	reads(t, "601 files", archive(pieces...), api.ErrBig)
}

// headAt: where the central head of a piece begins among the heads.
func headAt(pieces []piece, i int) int {
	_, ahead := laid(pieces[:i]...)
	return len(ahead)
}

// partAt: where its local part begins.
func partAt(pieces []piece, i int) int {
	ahead, _ := laid(pieces[:i]...)
	return len(ahead)
}

// P23.2: each byte of a central head, set to each other one.
func TestReadCentralBytes(t *testing.T) {
	pieces := sample()
	locals, heads := laid(pieces...)
	for i, x := range pieces {
		at := headAt(pieces, i)
		for k := range centralSize + len(x.path) {
			for c := range 256 {
				turned := put(heads, at+k, raw(byte(c)))
				if turned == heads {
					continue
				}
				want := api.ErrText
				// A length that is more than there is; that of the last head comes to the end first.
				if low := inCentral + lengthAt; k == low || k == low+1 {
					_, want = readByWords(joined(locals, turned, 3))
					if k == low+1 && want != api.ErrEnd || i == len(pieces)-1 && c > len(x.path) && want != api.ErrEnd {
						t.Errorf("head %d: a length too great: %d", i, want)
					}
				}
				reads(t, fmt.Sprint("head ", i, ", byte ", k), joined(locals, turned, 3), want)
			}
		}
	}
}

// P23.2: heads that are cut at each place, and what counts if a fixed byte ahead of the cut is another one.
func TestReadCentralEnd(t *testing.T) {
	pieces := sample()
	locals, heads := laid(pieces...)
	for n := range len(heads) {
		reads(t, fmt.Sprint("heads of ", n, " bytes"), joined(locals, heads[:n], 3), api.ErrEnd)
	}
	// Where the runs of bytes that are read as one end.
	ends := []int{6, 10, 12, 16, 20, 24, 28, 30, 32, 42, 46, 47}
	fixed := func(k int) bool {
		return k < inCentral || k < inCentral+factsSize && isFixed(k-inCentral) || k >= inCentral+factsSize && k < placeAt
	}
	one := archive(pieces[0])
	head := one[33 : 33+centralSize+1]
	for k := range placeAt {
		if !fixed(k) {
			continue
		}
		turned := put(head, k, raw(head[k]^0x81))
		whole := ends[slices.IndexFunc(ends, func(end int) bool { return end > k })]
		for n := k + 1; n < len(head); n++ {
			want := api.ErrEnd
			if n >= whole {
				want = api.ErrText
			}
			reads(t, fmt.Sprint("byte ", k, " turned, ", n, " bytes"), joined(one[:33], turned[:n], 1), want)
		}
	}
}

// P23.2: heads that end ahead of the end, ahead of all that is wrong in the local parts; a head that is wrong, ahead of that.
func TestReadCentralBehind(t *testing.T) {
	pieces := sample()
	locals, heads := laid(pieces...)
	for _, behind := range []string{"x", "\x00", "PK\x01\x02", heads, heads[:centralSize+1]} {
		reads(t, "bytes behind the heads", joined(locals, heads+behind, 3), api.ErrText)
	}
	for count := range 3 {
		reads(t, "fewer than there are", joined(locals, heads, count), api.ErrText)
	}
	for count := 4; count < 9; count++ {
		reads(t, "more than there are", joined(locals, heads, count), api.ErrEnd)
	}
	sum := []piece{plain("a", "hi"), plain("b", "")}
	sum[0].crc++
	locals, heads = laid(sum...)
	reads(t, "a sum", joined(locals, heads, 2), api.ErrSum)
	reads(t, "a sum, a byte behind the heads", joined(locals, heads+"x", 2), api.ErrText)
	reads(t, "a sum, a head cut", joined(locals, heads[:len(heads)-1], 2), api.ErrEnd)
	reads(t, "a sum, the last head wrong", joined(locals, put(heads, centralSize+1, "Q"), 2), api.ErrText)
	reads(t, "no local parts", joined("", heads, 2), api.ErrEnd)
	reads(t, "no local parts, a head cut", joined("", heads[:len(heads)-1], 2), api.ErrEnd)
	reads(t, "no local parts, a byte behind the heads", joined("", heads+"x", 2), api.ErrText)
}

// P23.2: each byte of a local part's head, set to each other one.
func TestReadLocalBytes(t *testing.T) {
	pieces := sample()
	locals, heads := laid(pieces...)
	for i, x := range pieces {
		at := partAt(pieces, i)
		for k := range localSize + len(x.path) {
			for c := range 256 {
				if turned := put(locals, at+k, raw(byte(c))); turned != locals {
					reads(t, fmt.Sprint("part ", i, ", byte ", k), joined(turned, heads, 3), api.ErrText)
				}
			}
		}
	}
}

// P23.2: local parts that are cut at each place, also if a byte ahead of the cut is another one.
func TestReadLocalEnd(t *testing.T) {
	pieces := sample()
	locals, heads := laid(pieces...)
	for n := range len(locals) {
		reads(t, fmt.Sprint("parts of ", n, " bytes"), joined(locals[:n], heads, 3), api.ErrEnd)
	}
	ends := []int{4, 8, 10, 14, 18, 22, 26, 28, 30, 33}
	x := plain("abc", "data")
	local, head := laid(x)
	for k := range localSize + 3 {
		turned := put(local, k, raw(local[k]^0x81))
		// What a local part tells is held against its head only behind the two noughts; its Path is fixed.
		whole := ends[slices.IndexFunc(ends, func(end int) bool { return end > k })]
		if k >= inLocal && k < localSize && !isFixed(k-inLocal) {
			whole = localSize
		}
		for n := k + 1; n <= len(local); n++ {
			want := api.ErrEnd
			if n >= whole {
				want = api.ErrText
			}
			reads(t, fmt.Sprint("byte ", k, " turned, ", n, " bytes"), joined(turned[:n], head, 1), want)
		}
	}
}

// P23.2: local parts that don't begin where their heads say, ahead of bytes that are wanting.
func TestReadPlaces(t *testing.T) {
	pieces := sample()
	locals, heads := laid(pieces...)
	for i := range pieces {
		at := headAt(pieces, i) + placeAt
		for _, place := range []int{0, 1, partAt(pieces, i) - 1, partAt(pieces, i), partAt(pieces, i) + 1, len(locals), len(locals) + 1, 1 << 16, 1 << 24, 1<<32 - 1} {
			moved := put(heads, at, four(place))
			want := []api.File(nil)
			wantE := api.ErrText
			if place == partAt(pieces, i) {
				want, wantE = filesIn(t, pieces...), api.OK
			}
			reads(t, fmt.Sprint("part ", i, " at ", place), joined(locals, moved, 3), wantE, want...)
			// All up to the part is there, and nothing of it.
			if wantE == api.OK {
				wantE = api.ErrEnd
			}
			reads(t, fmt.Sprint("part ", i, " at ", place, ", wanting"), joined(locals[:partAt(pieces, i)], moved, 3), wantE)
		}
		gap := locals[:partAt(pieces, i)] + "x" + locals[partAt(pieces, i):]
		reads(t, "a gap", joined(gap, heads, 3), api.ErrText)
		if moved := put(heads, at, four(partAt(pieces, i)+1)); i == len(pieces)-1 {
			reads(t, "a gap that is told", joined(gap, moved, 3), api.ErrText)
		}
	}
	// Two heads of one part; parts in another order than the heads.
	one, two := plain("a", "x"), plain("b", "y")
	reads(t, "two heads of one part", joined(one.local(), one.central(0)+one.central(0), 2), api.ErrText)
	reads(t, "another order of the heads", joined(one.local()+two.local(), two.central(32)+one.central(0), 2), api.ErrText)
	reads(t, "another order of the parts", joined(two.local()+one.local(), one.central(32)+two.central(0), 2), api.ErrText)
}

// P23.2: bytes between the local parts and the central heads, behind all that is wrong in a part, ahead of paths that Check refuses.
func TestReadLocalBehind(t *testing.T) {
	pieces := sample()
	locals, heads := laid(pieces...)
	for _, behind := range []string{"x", "\x00", "PK\x03\x04", locals, locals[:33]} {
		reads(t, "bytes behind the parts", joined(locals+behind, heads, 3), api.ErrText)
	}
	// A head too few: the last part is then bytes that no head tells of.
	reads(t, "a part without a head", joined(locals, heads[:headAt(pieces, 2)], 2), api.ErrText)
	reads(t, "parts without heads", joined(locals, "", 0), api.ErrText)
	sum := plain("a", "hi")
	sum.crc++
	reads(t, "a sum, bytes behind", joined(sum.local()+"x", sum.central(0), 1), api.ErrSum)
	locals, heads = laid(plain("b", ""), plain("a", ""))
	reads(t, "falling", joined(locals, heads, 2), api.ErrForm)
	reads(t, "falling, bytes behind", joined(locals+"x", heads, 2), api.ErrText)
}

// P23.2: paths that Check refuses, behind all else.
func TestReadPaths(t *testing.T) {
	for _, p := range []string{"", "/", "/a", "a/", "a//b", ".", "..", "a/..", "a\x00", "\x1f", "é", "\xff\xfe", strings.Repeat("a", 201), strings.Repeat("a", 256), strings.Repeat("a", 65535)} {
		reads(t, "no path", archive(plain(p, "hi")), api.ErrForm)
		reads(t, "no path", archive(squeezed(p, "hi")), api.ErrForm)
		reads(t, "no path, last", archive(plain(" ", "hi"), plain(p, "ho")), api.ErrForm)
		other := plain("~", "hi")
		other.method = 1
		reads(t, "no path, then another method", archive(plain(p, "hi"), other), api.ErrKind)
	}
	reads(t, "a path of 200", archive(plain(strings.Repeat("a", 200), "")), api.OK, api.File{Path: strings.Repeat("a", 200)})
	reads(t, "twice", archive(plain("a", "x"), plain("a", "x")), api.ErrForm)
	reads(t, "falling", archive(plain("b", "x"), plain("a", "x")), api.ErrForm)
	reads(t, "falling", archive(plain("a", "x"), plain("c", "x"), squeezed("b", "x")), api.ErrForm)
	reads(t, "in one another", archive(plain("a", "x"), plain("a/b", "x")), api.OK, api.File{Path: "a", Data: "x"}, api.File{Path: "a/b", Data: "x"})
}
