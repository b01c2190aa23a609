package zip

import (
	"fmt"
	"math/rand"
	"strings"
	"testing"

	"cartulary/api"
	"cartulary/inflate"
)

// P23.2: a stored file whose two sizes are unlike.
func TestReadStored(t *testing.T) {
	for _, data := range []string{"", "h", "hi", strings.Repeat("hi", 40000)} {
		x := plain("a", data)
		for _, size := range []int{0, 1, 2, 3, len(data) - 1, len(data), len(data) + 1, 70000, 80001, 1048576} {
			if x.size = size; size < 0 {
				continue
			}
			if size == len(data) {
				reads(t, "both sizes alike", archive(x), api.OK, api.File{Path: "a", Data: data})
			} else {
				reads(t, fmt.Sprint(len(data), " bytes follow, of ", size), archive(x), api.ErrText)
			}
		}
		// Ahead of the sum.
		x.size, x.crc = len(data)+1, x.crc+1
		reads(t, "unlike sizes, another sum", archive(x), api.ErrText)
	}
}

// P23.2: deflated files, by this program and by another one.
func TestReadDeflated(t *testing.T) {
	random := rand.New(rand.NewSource(5))
	noise := make([]byte, 65536)
	random.Read(noise)
	for _, n := range []int{0, 1, 2, 100, 4095, 32768, 65534, 65535, 65536} {
		for _, data := range []string{strings.Repeat("ab\x00", n)[:n], string(noise[:n])} {
			want := api.File{Path: "a", Data: data}
			x := squeezed("a", data)
			reads(t, "deflated", archive(x), api.OK, want)
			x.follow = inflate.Deflate(data)
			reads(t, "deflated here", archive(x), api.OK, want)
			x.follow = inflate.Stored(data)
			reads(t, "in stored blocks", archive(x), api.OK, want)
			reads(t, "a long way", archive(longWay(t, "a", data, len(x.follow)+1000)), api.OK, want)
		}
	}
}

// P23.2: a deflated file above 65536 bytes, ahead of what its stream says and of its sum.
func TestReadDeflatedBig(t *testing.T) {
	for _, n := range []int{65537, 65538, 100000, 1048576} {
		x := squeezed("a", strings.Repeat("x", n))
		reads(t, fmt.Sprint("deflated of ", n), archive(x), api.ErrBig)
		x.follow = "no stream"
		reads(t, fmt.Sprint("no stream of ", n), archive(x), api.ErrBig)
		x.follow, x.crc = "", 7
		reads(t, fmt.Sprint("nothing of ", n), archive(x), api.ErrBig)
	}
	x := squeezed("a", strings.Repeat("x", 65536))
	x.size = 65537
	reads(t, "65537 are told, 65536 said", archive(x), api.ErrBig)
	x = squeezed("a", strings.Repeat("x", 65537))
	x.size = 65536
	reads(t, "65536 are told, 65537 said", archive(x), api.ErrText)
}

// P23.2: a stream that says fewer or more bytes, doesn't take all that follow, or is none.
func TestReadStreams(t *testing.T) {
	data := "hello hello hello hello, and once more hello"
	for _, x := range []piece{squeezed("a", data), squeezed("a", ""), {path: "a", method: 8, follow: inflate.Stored(data), size: len(data), crc: plain("a", data).crc}} {
		right := filesIn(t, x)
		reads(t, "a stream", archive(x), api.OK, right...)
		for size := range 100 {
			y := x
			if y.size = size; size != x.size {
				reads(t, fmt.Sprint(size, " told, ", x.size, " said"), archive(y), api.ErrText)
			}
		}
		for n := range len(x.follow) {
			y := x
			y.follow = x.follow[:n]
			reads(t, "a stream that is cut", archive(y), api.ErrText)
			// The bytes that are wanting stand there, but they are the next part's, or the heads'.
			reads(t, "a stream that is cut, and another one", archive(y, plain("b", "")), api.ErrText)
		}
		for _, behind := range []string{"\x00", "\x03\x00", x.follow} {
			y := x
			y.follow += behind
			reads(t, "bytes behind a stream", archive(y), api.ErrText)
			y.follow = behind[:1] + x.follow
			if y.follow[0] != x.follow[0] {
				reads(t, "bytes ahead of a stream", archive(y), api.ErrText)
			}
		}
	}
	for _, follow := range []string{"\x07", "\xff", "hi", "", "\x00", "\x01\x02\x00\xfd\xfehi", "\x01\x02\x00\xfd\xffh", "\x05\x00"} {
		x := plain("a", "hi")
		x.method, x.follow = 8, follow
		reads(t, "no stream", archive(x), api.ErrText)
		// Ahead of the sum.
		x.crc++
		reads(t, "no stream, another sum", archive(x), api.ErrText)
	}
}

// P23.2: what is left over in the last byte of a stream doesn't matter.
func TestReadStreamBits(t *testing.T) {
	for spare := range 64 {
		x := piece{path: "a", method: 8, follow: "\x03" + raw(byte(spare)<<2)}
		reads(t, "spare bits", archive(x), api.OK, api.File{Path: "a"})
	}
}

// P23.2: each other method, of whatever sizes and sum.
func TestReadMethods(t *testing.T) {
	x := plain("a", "hi")
	for method := range 65536 {
		x.method = method
		switch method {
		case 0:
			reads(t, "method 0", archive(x), api.OK, api.File{Path: "a", Data: "hi"})
		case 8:
			reads(t, "method 8", archive(x), api.ErrText)
		default:
			if _, e := Read(archive(x)); e != api.ErrKind {
				t.Errorf("method %d: %d", method, e)
			}
		}
	}
	for _, method := range []int{1, 7, 9, 12, 14, 256, 264, 2048, 65535} {
		x := piece{path: "a", method: method, follow: "hi", size: 3, crc: 9}
		reads(t, "another method", archive(x), api.ErrKind)
		x.size = 65537
		reads(t, "another method, 65537 bytes", archive(x), api.ErrKind)
		x.size = 1048576
		reads(t, "another method, the most bytes", archive(x), api.ErrKind)
		x.size = 1048577
		reads(t, "another method, too many bytes", archive(x), api.ErrBig)
	}
}

// P23.2: another cyclic sum.
func TestReadSum(t *testing.T) {
	for _, x := range []piece{plain("a", "hi"), plain("a", ""), squeezed("a", "hi"), squeezed("a", strings.Repeat("hi", 20000))} {
		for bit := range 32 {
			y := x
			y.crc ^= 1 << bit
			reads(t, fmt.Sprint("bit ", bit, " of the sum"), archive(y), api.ErrSum)
			reads(t, fmt.Sprint("bit ", bit, " of the sum, the last one"), archive(plain(" ", "!"), y), api.ErrSum)
			reads(t, fmt.Sprint("bit ", bit, " of the sum, the first one"), archive(y, plain("b", "!")), api.ErrSum)
		}
	}
	// That of the bytes that follow is not that of the bytes.
	x := squeezed("a", "hi")
	x.crc = plain("a", x.follow).crc
	reads(t, "the sum of the stream", archive(x), api.ErrSum)
}

// P23.2: sizes together of 1048576 bytes and one more, of each method, ahead of all that the same part says wrong, behind the parts ahead.
func TestReadSizes(t *testing.T) {
	most := strings.Repeat("0123456789abcdef", 65536)
	reads(t, "the most bytes", archive(plain("a", most)), api.OK, api.File{Path: "a", Data: most})
	reads(t, "one more", archive(plain("a", most+"x")), api.ErrBig)
	reads(t, "one more in another file", archive(plain("a", most), plain("b", "x")), api.ErrBig)
	reads(t, "nothing more in another file", archive(plain("a", most), plain("b", "")), api.OK, api.File{Path: "a", Data: most}, api.File{Path: "b"})
	var pieces []piece
	for i := range 16 {
		pieces = append(pieces, squeezed(fmt.Sprintf("%02d", i), most[:65536]))
	}
	reads(t, "the most bytes, deflated", archive(pieces...), api.OK, filesIn(t, pieces...)...)
	for _, last := range []piece{plain("x", "x"), squeezed("x", "x"), {path: "x", size: 1}, {path: "x", size: 1, method: 9}, {path: "x", size: 1, method: 8}, {path: "x", size: 1<<32 - 1}} {
		reads(t, "one more", archive(append(pieces[:16:16], last)...), api.ErrBig)
		// What is wrong ahead counts first.
		wrong := append(pieces[:16:16], last)
		wrong[15].crc++
		reads(t, "a sum, then one more", archive(wrong...), api.ErrSum)
		wrong[15].method = 9
		reads(t, "another method, then one more", archive(wrong...), api.ErrKind)
		// Bytes are wanting in the part itself: that counts first, too.
		locals, heads := laid(append(pieces[:16:16], last)...)
		reads(t, "one more, a byte is wanting", joined(locals[:len(locals)-1], heads, 17), api.ErrEnd)
	}
	for _, x := range []piece{{path: "a", size: 1048577}, {path: "a", size: 1048577, method: 8}, {path: "a", size: 1<<32 - 1}, {path: "a", size: 1 << 31, method: 8}} {
		reads(t, "too much is told", archive(x), api.ErrBig)
		reads(t, "too much is told, last", archive(plain(" ", "x"), x), api.ErrBig)
	}
	// How many bytes follow doesn't count.
	long := longWay(t, "a", "x", 1048577)
	pieces = []piece{long, plain("b", most[:900000]), squeezed("c", most[:65536]), squeezed("d", most[:65536]), plain("e", most[:17503])}
	reads(t, "streams above the most bytes", archive(pieces...), api.OK, filesIn(t, pieces...)...)
	pieces[4] = plain("e", most[:17504])
	reads(t, "streams above the most bytes, and one more", archive(pieces...), api.ErrBig)
	many := make([]piece, 600)
	for i := range many {
		many[i] = piece{path: fmt.Sprintf("%03d", i), size: 1<<32 - 1, method: 8}
	}
	reads(t, "far too much", archive(many...), api.ErrBig)
}
