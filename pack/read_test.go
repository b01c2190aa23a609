package pack

import (
	"encoding/hex"
	"hash/crc32"
	"math"
	"math/rand"
	"strings"
	"testing"

	"cartulary/api"
	"cartulary/zlib"
)

// reads holds Read against what the document asks.
func reads(t *testing.T, s string, at int, want Entry, wantE api.Errno) {
	t.Helper()
	if x, e := Read(s, at); x != want || e != wantE {
		t.Errorf("Read(%.60x of %d, %d): %.200v, %d, not %.200v, %d", s, len(s), at, x, e, want, wantE)
	}
}

// around: bytes that stand for a pack's head, and for its sum; Read asks neither.
const (
	head = "any 12 bytes"
	tail = "twenty bytes, no sum"
)

// fails holds Read of these bytes at 12 against an error.
func fails(t *testing.T, bytes string, want api.Errno) {
	t.Helper()
	reads(t, head+bytes+tail, 12, Entry{}, want)
}

// model: Read by the words of the document.
func model(s string, at int) (Entry, api.Errno) {
	if at < 12 || at > len(s)-20 {
		return Entry{}, api.ErrArg
	}
	body, p := s[:len(s)-20], at
	var opening []int
	for len(opening) == 0 || opening[len(opening)-1] >= 128 {
		if p == len(body) {
			return Entry{}, api.ErrEnd
		}
		opening = append(opening, int(body[p]))
		p++
		if len(opening) == 6 {
			return Entry{}, api.ErrText
		}
	}
	kind, size, unit := opening[0]&0x70/16, opening[0]&0xf, 16
	for _, c := range opening[1:] {
		size += c & 0x7f * unit
		unit *= 128
	}
	x := Entry{At: at, Kind: kind}
	switch kind {
	case 0, 5:
		return Entry{}, api.ErrKind
	case 6:
		n := 0
		for first := true; ; first = false {
			if p == len(body) {
				return Entry{}, api.ErrEnd
			}
			c := int(body[p])
			p++
			if !first {
				n = (n + 1) * 128
			}
			n += c & 0x7f
			if c < 128 {
				break
			}
			if n > 16777216 {
				return Entry{}, api.ErrText
			}
		}
		if n == 0 || n > at-12 {
			return Entry{}, api.ErrText
		}
		x.Base = at - n
	case 7:
		if len(body)-p < 20 {
			return Entry{}, api.ErrEnd
		}
		x.Id = hex.EncodeToString([]byte(body[p : p+20]))
		p += 20
	}
	if size > 65000 {
		return Entry{}, api.ErrBig
	}
	data, n, e := zlib.Read(body, p, size)
	switch {
	case e == api.ErrBig:
		return Entry{}, api.ErrText
	case e != api.OK:
		return Entry{}, e
	case len(data) != size:
		return Entry{}, api.ErrText
	}
	x.Data, x.Next = data, p+n
	x.Crc = crc32.ChecksumIEEE([]byte(s[at : p+n]))
	return x, api.OK
}

// P11.1: places ahead of 12, at the sum, and behind.
func TestReadPlaces(t *testing.T) {
	s := packOf(1, entry(api.Blob, "abc"))
	want := Entry{At: 12, Next: len(s) - 20, Kind: api.Blob, Data: "abc", Crc: crc32.ChecksumIEEE([]byte(s[12 : len(s)-20]))}
	reads(t, s, 12, want, api.OK)
	for _, at := range []int{math.MinInt, -20, -1, 0, 1, 10, 11, len(s) - 19, len(s) - 1, len(s), len(s) + 1, math.MaxInt} {
		reads(t, s, at, Entry{}, api.ErrArg)
	}
	reads(t, s, len(s)-20, Entry{}, api.ErrEnd)
	for n := range 32 {
		for at := -40; at < 60; at++ {
			reads(t, strings.Repeat("\x30", n), at, Entry{}, api.ErrArg)
		}
	}
	reads(t, strings.Repeat("\x30", 32), 12, Entry{}, api.ErrEnd)
}

// P11.1: what Count asks isn't asked, and the last 20 bytes are not the entry's.
func TestReadAsksNoHead(t *testing.T) {
	one := entry(api.Commit, "a commit")
	for _, h := range []string{head, "PACK\x00\x00\x00\x02\x00\x00\xff\xff", strings.Repeat("\xff", 12), "PACK\x00\x00\x00\x02\x00\x00\x00\x00"} {
		want := Entry{At: 12, Next: 12 + len(one), Kind: api.Commit, Data: "a commit", Crc: crc32.ChecksumIEEE([]byte(one))}
		reads(t, h+one+tail, 12, want, api.OK)
		reads(t, h+one+one+tail, 12, want, api.OK)
		for cut := 1; cut <= len(one); cut++ {
			reads(t, h+one[:len(one)-cut]+tail, 12, Entry{}, api.ErrEnd)
			// The bytes that are wanting stand there, but they are the sum's.
			reads(t, (h + one + tail)[:len(h+one+tail)-cut], 12, Entry{}, api.ErrEnd)
		}
	}
}

// P11.1: each kind, with sizes in as many bytes as they need and in more, up to five.
func TestReadOpening(t *testing.T) {
	for kind := 1; kind <= 4; kind++ {
		for _, size := range []int{0, 1, 2, 15, 16, 17, 31, 127, 128, 2047, 2048, 2049, 32768, 64999, 65000} {
			for least := 1; least <= 5; least++ {
				data := strings.Repeat("ab\x00", size)[:size]
				bytes := openingOf(kind, size, least) + framed(data, 1)
				want := Entry{At: 12, Next: 12 + len(bytes), Kind: kind, Data: data, Crc: crc32.ChecksumIEEE([]byte(bytes))}
				reads(t, head+bytes+tail, 12, want, api.OK)
			}
		}
	}
}

// P11.1: a kind and a size of six bytes, and such as end early.
func TestReadOpeningLong(t *testing.T) {
	frame := framed("abc", 6)
	for kind := range 8 {
		six := openingOf(kind, 3, 6)
		if len(six) != 6 {
			t.Fatalf("%x", six)
		}
		fails(t, six+frame, api.ErrText)
		fails(t, six, api.ErrText)
		fails(t, openingOf(kind, 3, 7)+frame, api.ErrText)
		fails(t, strings.Repeat(string([]byte{byte(kind<<4) | 128}), 9)+frame, api.ErrText)
		for n := range 6 {
			fails(t, six[:n], api.ErrEnd)
		}
	}
	// The size's highest bits count, though nothing so long can be.
	for _, size := range []int{1 << 16, 1 << 17, 1 << 18, 1 << 25, 1 << 31, 1<<32 - 1, 1<<31 + 3} {
		fails(t, openingOf(3, size, 5)+frame, api.ErrBig)
	}
}

// P11.1: kinds 0 and 5, ahead of any further byte.
func TestReadKinds(t *testing.T) {
	for _, kind := range []int{0, 5} {
		for _, size := range []int{0, 3, 16, 65000, 65001, 1<<32 - 1} {
			for least := 1; least <= 5; least++ {
				opening := openingOf(kind, size, least)
				fails(t, opening, api.ErrKind)
				fails(t, opening+framed("abc", 6), api.ErrKind)
				fails(t, opening+"no frame", api.ErrKind)
			}
		}
	}
}

// P11.1: a base's place, for each number that can be right there and for those about it.
func TestReadBack(t *testing.T) {
	for _, at := range []int{12, 13, 14, 139, 140, 141, 200, 16522, 16523, 16524, 20000} {
		for _, back := range []int{0, 1, 2, 126, 127, 128, 129, 187, 188, 255, 256, 16383, 16384, 16511, 16512, 16513, at - 14, at - 13, at - 12, at - 11, at - 10, at, at + 1, 1 << 20, 1 << 24, 1<<24 + 1, 1 << 31} {
			if back < 0 {
				continue
			}
			bytes := "\x63" + backOf(back) + framed("abc", 6)
			s := strings.Repeat("x", at) + bytes + tail
			if back < 1 || back > at-12 {
				reads(t, s, at, Entry{}, api.ErrText)
				continue
			}
			reads(t, s, at, Entry{At: at, Next: at + len(bytes), Kind: Offset, Data: "abc", Base: at - back, Crc: crc32.ChecksumIEEE([]byte(bytes))}, api.OK)
		}
	}
}

// P11.1: each number of two bytes, told by hand.
func TestReadBackBytes(t *testing.T) {
	s := strings.Repeat("x", 40000)
	for bytes, back := range map[string]int{"\x01": 1, "\x7f": 127, "\x80\x00": 128, "\x80\x01": 129, "\x80\x7f": 255, "\x81\x00": 256, "\x82\x03": 387, "\xff\x7f": 16511, "\x80\x80\x00": 16512, "\x80\x80\x01": 16513, "\x81\x80\x00": 32896} {
		if backOf(back) != bytes {
			t.Errorf("%d: %x, not %x", back, backOf(back), bytes)
		}
		if x, e := Read(s+"\x60"+bytes+framed("", 6)+tail, 40000); x.Base != 40000-back || e != api.OK {
			t.Errorf("%x: %v, %d", bytes, x, e)
		}
	}
}

// P11.1: numbers that pass 2^24 with another byte to follow, and such as don't.
func TestReadBackGreat(t *testing.T) {
	open := func(n int) string {
		b := []byte(backOf(n))
		b[len(b)-1] |= 128
		return string(b)
	}
	for _, n := range []int{0, 1, 127, 128, 1 << 20, 1<<24 - 1, 1 << 24} {
		fails(t, "\x63"+open(n), api.ErrEnd)
		fails(t, "\x63"+open(n)+"\x00"+framed("abc", 6), api.ErrText)
	}
	for _, n := range []int{1<<24 + 1, 1<<24 + 127, 1<<24 + 128, 1 << 25, 1 << 30, 1<<31 - 1} {
		fails(t, "\x63"+open(n), api.ErrText)
		fails(t, "\x63"+open(n)+"\x00"+framed("abc", 6), api.ErrText)
	}
	// However many bytes say that more follow.
	for n := 1; n < 40; n++ {
		want := api.ErrEnd
		if n >= 4 {
			want = api.ErrText
		}
		fails(t, "\x63"+strings.Repeat("\xff", n), want)
	}
	fails(t, "\x63"+strings.Repeat("\xff", 3), api.ErrEnd)
	fails(t, "\x63", api.ErrEnd)
}

// P11.1: a base that stands more than 2^24 bytes back, though no byte more may follow such a number.
func TestReadBackFar(t *testing.T) {
	at := 1<<24 + 100
	for _, back := range []int{1<<24 - 1, 1 << 24, 1<<24 + 1, 1<<24 + 88, 1<<24 + 89} {
		s := strings.Repeat("x", at) + "\x60" + backOf(back) + framed("", 6) + tail
		x, e := Read(s, at)
		want, wantE := model(s, at)
		if x != want || e != wantE || (e == api.OK) != (back <= at-12) {
			t.Errorf("%d back: %v, %d", back, x, e)
		}
	}
}

// P11.1: a base's name, and names that end early.
func TestReadNamed(t *testing.T) {
	frame := framed("abc", 6)
	for i := range 50 {
		name := sample(1000 + i)[:20]
		bytes := "\x73" + name + frame
		want := Entry{At: 12, Next: 12 + len(bytes), Kind: Named, Data: "abc", Id: hex.EncodeToString([]byte(name)), Crc: crc32.ChecksumIEEE([]byte(bytes))}
		reads(t, head+bytes+tail, 12, want, api.OK)
		for n := range 20 {
			fails(t, "\x73"+name[:n], api.ErrEnd)
		}
		fails(t, "\x73"+name, api.ErrEnd)
		fails(t, "\x73"+name+"no frame", api.ErrText)
	}
}

// P11.1: the size's own limit, behind the errors of the base and ahead of those of the frame.
func TestReadBig(t *testing.T) {
	name := strings.Repeat("n", 20)
	for _, size := range []int{65001, 65002, 65535, 65536, 70000, 1<<32 - 1} {
		for kind := 1; kind <= 4; kind++ {
			for _, behind := range []string{"", "no frame", framed("abc", 6), framed(strings.Repeat("a", min(size, 70000)), 6)} {
				fails(t, openingOf(kind, size, 1)+behind, api.ErrBig)
			}
		}
		six, seven := openingOf(6, size, 1), openingOf(7, size, 1)
		fails(t, six, api.ErrEnd)
		fails(t, six+"\x00", api.ErrText)
		fails(t, six+"\x01", api.ErrText)
		reads(t, head+"x"+six+"\x01"+tail, 13, Entry{}, api.ErrBig)
		reads(t, head+"x"+six+"\x01no frame"+tail, 13, Entry{}, api.ErrBig)
		fails(t, seven+name[:19], api.ErrEnd)
		fails(t, seven+name, api.ErrBig)
		fails(t, seven+name+framed("abc", 6), api.ErrBig)
	}
	fails(t, openingOf(3, 65000, 1), api.ErrEnd)
	fails(t, openingOf(3, 65000, 1)+"no frame", api.ErrText)
}

// P11.1: frames that say fewer or more bytes than the size.
func TestReadSize(t *testing.T) {
	for _, n := range []int{0, 1, 2, 15, 16, 100, 2047, 2048, 64999, 65000, 65001, 65536, 65537, 70000} {
		for _, data := range []string{strings.Repeat("a", n), sample(n)} {
			for _, size := range []int{0, 1, n - 1, n, n + 1, n + 16, 65000} {
				if size < 0 || size > 65000 {
					continue
				}
				for _, level := range []int{0, 1, 9} {
					_, e := Read(head+openingOf(3, size, 1)+framed(data, level)+tail, 12)
					want := api.ErrText
					if size == n {
						want = api.OK
					}
					if e != want {
						t.Errorf("size %d, %d bytes: %d, not %d", size, n, e, want)
					}
				}
			}
		}
	}
}

// P11.1: errors of a frame, of one that isn't right and of one of another size.
func TestReadFrame(t *testing.T) {
	frame := zlib.Plain("abcde") // 78 01, 01, 05 00 fa ff, abcde, four bytes
	if len(frame) != 16 {
		t.Fatalf("%x", frame)
	}
	turned := frame[:15] + "z"
	fails(t, "\x35"+frame[:0], api.ErrEnd)
	fails(t, "\x35"+frame[:1], api.ErrEnd)
	fails(t, "\x35\x78\x02"+frame[2:], api.ErrText)
	fails(t, "\x35\x78\x01\x07"+frame[3:], api.ErrText)
	fails(t, "\x35"+turned, api.ErrSum)
	// Fewer bytes count in a frame that is right alone.
	fails(t, "\x36"+frame, api.ErrText)
	fails(t, "\x36"+turned, api.ErrSum)
	fails(t, "\x36"+frame[:15], api.ErrEnd)
	fails(t, "\x36"+frame[:10], api.ErrEnd)
	// More bytes count as soon as they come out.
	fails(t, "\x34"+frame, api.ErrText)
	fails(t, "\x34"+turned, api.ErrText)
	fails(t, "\x34"+frame[:12], api.ErrText)
	fails(t, "\x34"+frame[:11], api.ErrEnd)
	fails(t, "\x34"+frame[:7], api.ErrEnd)
	fails(t, "\x30"+frame[:8], api.ErrText)
	fails(t, "\x30"+frame[:7], api.ErrEnd)
	for n := range 16 {
		fails(t, "\x35"+frame[:n], api.ErrEnd)
	}
}

// P11.1: Read of each place of right packs, and of packs that were changed, against the document's words.
func TestReadAgainstModel(t *testing.T) {
	random := rand.New(rand.NewSource(11))
	packs := []string{unhex(t, gitByPlace), unhex(t, gitByName), packOf(4, entry(1, "abc"), "\x63\x0b"+framed("abc", 0), "\x60\x80\x00"+framed("", 0), "\x73"+sample(20)+framed("abc", 9))}
	seen := map[api.Errno]int{}
	for round := range 3000 {
		b := []byte(packs[round%len(packs)])
		for range random.Intn(4) {
			at := 12 + random.Intn(len(b)-12)
			switch random.Intn(4) {
			case 0:
				b[at] = byte(random.Intn(256))
			case 1:
				b[at] ^= 1 << random.Intn(8)
			case 2:
				b = append(b[:at:at], b[at+1:]...)
			case 3:
				b = append(b[:at:at], append([]byte{byte(128 + random.Intn(128))}, b[at:]...)...)
			}
		}
		s := string(b)
		for at := 10; at <= len(s)-18; at++ {
			want, wantE := model(s, at)
			seen[wantE]++
			reads(t, s, at, want, wantE)
		}
	}
	for _, e := range []api.Errno{api.OK, api.ErrArg, api.ErrBig, api.ErrText, api.ErrSum, api.ErrEnd, api.ErrKind} {
		if seen[e] < 100 {
			t.Errorf("error %d came %d times: %v", e, seen[e], seen)
		}
	}
}

// P11.1: Read of bytes that anyone might have put there.
func TestReadHostile(t *testing.T) {
	random := rand.New(rand.NewSource(12))
	for range 200000 {
		b := make([]byte, 32+random.Intn(60))
		random.Read(b)
		if random.Intn(2) == 0 && len(b) > 60 {
			copy(b[14+random.Intn(30):], "\x78\x01\x03\x00\x00\x00\x00\x01")
		}
		for i := 12; i < 20; i++ {
			b[i] |= byte(random.Intn(2)) << 7
		}
		at := 12 + random.Intn(len(b)-31)
		want, wantE := model(string(b), at)
		reads(t, string(b), at, want, wantE)
	}
}
