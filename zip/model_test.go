package zip

import (
	"bytes"
	"compress/flate"
	"encoding/binary"
	"fmt"
	"hash/crc32"
	"io"
	"regexp"
	"slices"
	"strings"
	"testing"

	"cartulary/api"
)

// piece is a file of an archive as its heads tell it; what they tell needn't be right.
type piece struct {
	path, follow string
	method       int
	crc          uint32
	size         int
}

// plain: a file that is stored.
func plain(path, data string) piece {
	return piece{path: path, follow: data, crc: crc32.ChecksumIEEE([]byte(data)), size: len(data)}
}

// squeezer is one for all: a new one takes far longer than what it is to write.
var squeezer, _ = flate.NewWriter(io.Discard, 9)

// squeezed: a file that is deflated, as another program writes it.
func squeezed(path, data string) piece {
	var b bytes.Buffer
	squeezer.Reset(&b)
	io.WriteString(squeezer, data)
	squeezer.Close()
	x := plain(path, data)
	x.follow, x.method = b.String(), 8
	return x
}

// facts: what both heads of a file tell, 26 bytes.
func (x piece) facts() string {
	le := binary.LittleEndian
	b := []byte{20, 0, 0, 0}
	b = le.AppendUint16(b, uint16(x.method))
	b = append(b, 0, 0, 0, 0)
	b = le.AppendUint32(b, x.crc)
	b = le.AppendUint32(b, uint32(len(x.follow)))
	b = le.AppendUint32(b, uint32(x.size))
	b = le.AppendUint16(b, uint16(len(x.path)))
	return string(append(b, 0, 0))
}

func (x piece) local() string {
	return "PK\x03\x04" + x.facts() + x.path + x.follow
}

func (x piece) central(place int) string {
	return "PK\x01\x02\x14\x00" + x.facts() + strings.Repeat("\x00", 10) + four(place) + x.path
}

func four(n int) string {
	return string(binary.LittleEndian.AppendUint32(nil, uint32(n)))
}

func two(n int) string {
	return string(binary.LittleEndian.AppendUint16(nil, uint16(n)))
}

// laid: the local parts of an archive, and its central heads.
func laid(pieces ...piece) (locals, heads string) {
	var l, h strings.Builder
	for _, x := range pieces {
		h.WriteString(x.central(l.Len()))
		l.WriteString(x.local())
	}
	return l.String(), h.String()
}

// joined: an archive of these parts, with an end that says where they stand.
func joined(locals, heads string, count int) string {
	return locals + heads + ending22(count, count, len(heads), len(locals))
}

// ending22: an end.
func ending22(count, again, size, first int) string {
	return "PK\x05\x06\x00\x00\x00\x00" + two(count) + two(again) + four(size) + four(first) + "\x00\x00"
}

// archive: that of these pieces.
func archive(pieces ...piece) string {
	locals, heads := laid(pieces...)
	return joined(locals, heads, len(pieces))
}

// filesIn: what pieces say that are right.
func filesIn(t *testing.T, pieces ...piece) []api.File {
	t.Helper()
	var files []api.File
	for _, x := range pieces {
		data := x.follow
		if x.method == 8 {
			b, err := io.ReadAll(flate.NewReader(strings.NewReader(x.follow)))
			if err != nil {
				t.Fatal(err)
			}
			data = string(b)
		}
		files = append(files, api.File{Path: x.path, Data: data})
	}
	return files
}

// raw: a byte as a text.
func raw(c byte) string {
	return string([]byte{c})
}

// put: a text with other bytes at a place.
func put(s string, at int, bytes string) string {
	return s[:at] + bytes + s[at+len(bytes):]
}

// reads holds Read against what the document asks.
func reads(t *testing.T, what, s string, wantE api.Errno, want ...api.File) {
	t.Helper()
	files, e := Read(s)
	if e != wantE || !slices.Equal(files, want) || e != api.OK && files != nil {
		t.Errorf("%s: Read(%.200x of %d bytes): %.200v, %d, not %.200v, %d", what, s, len(s), fmt.Sprint(files), e, fmt.Sprint(want), wantE)
	}
	if model, modelE := readByWords(s); modelE != wantE || !slices.Equal(model, want) {
		t.Errorf("%s: readByWords(%.200x of %d bytes): %.200v, %d, not %.200v, %d", what, s, len(s), fmt.Sprint(model), modelE, fmt.Sprint(want), wantE)
	}
}

var pathForm = regexp.MustCompile(`^[ -~]{1,200}\z`)

// checkByWords: Check by the document's words.
func checkByWords(files []api.File) api.Errno {
	var all strings.Builder
	var paths []string
	for _, f := range files {
		all.WriteString(f.Data)
		paths = append(paths, f.Path)
	}
	if len(files) > 600 || all.Len() > 1048576 {
		return api.ErrBig
	}
	for _, p := range paths {
		bounded := "/" + p + "/"
		if !pathForm.MatchString(p) || strings.Contains(bounded, "//") || strings.Contains(bounded, "/./") || strings.Contains(bounded, "/../") {
			return api.ErrForm
		}
	}
	rising := slices.Compact(slices.Sorted(slices.Values(paths)))
	if !slices.Equal(paths, rising) {
		return api.ErrForm
	}
	return api.OK
}

// slot is a run of bytes of a head: fixed, or kept under a name.
type slot struct {
	width int
	fixed string
	name  string
}

// slotsOf: what a head is read as, behind its beginning: the facts and what is told behind them.
func slotsOf(start string, behind ...slot) []slot {
	return append([]slot{
		{len(start), start, ""}, {4, "\x14\x00\x00\x00", ""}, {2, "", "method"}, {4, "\x00\x00\x00\x00", ""}, {4, "", "crc"},
		{4, "", "follow"}, {4, "", "size"}, {2, "", "length"}, {2, "\x00\x00", ""},
	}, behind...)
}

// readSlots: what stands at a place of an area, by names, and the place behind it.
func readSlots(area string, at int, slots []slot) (map[string]int, int, api.Errno) {
	got := map[string]int{}
	for _, x := range slots {
		if at+x.width > len(area) {
			return nil, 0, api.ErrEnd
		}
		bytes := area[at : at+x.width]
		if x.fixed != "" && bytes != x.fixed {
			return nil, 0, api.ErrText
		}
		for i := range len(bytes) {
			if x.name != "" {
				got[x.name] += int(bytes[i]) << (8 * i)
			}
		}
		at += x.width
	}
	return got, at, api.OK
}

// readByWords: Read by the document's words.
func readByWords(s string) ([]api.File, api.Errno) {
	if len(s) > 2097152 {
		return nil, api.ErrBig
	}
	if len(s) < 22 {
		return nil, api.ErrEnd
	}
	end, _, e := readSlots(s, len(s)-22, []slot{
		{8, "PK\x05\x06\x00\x00\x00\x00", ""}, {2, "", "count"}, {2, "", "again"}, {4, "", "size"}, {4, "", "first"}, {2, "\x00\x00", ""},
	})
	if e != api.OK || end["count"] != end["again"] || end["first"]+end["size"] != len(s)-22 {
		return nil, api.ErrText
	}
	if end["count"] > 600 {
		return nil, api.ErrBig
	}
	first := end["first"]
	heads, paths, e := headsByWords(s[:len(s)-22], first, end["count"])
	if e != api.OK {
		return nil, e
	}
	return localsByWords(s[:first], heads, paths)
}

func headsByWords(area string, at, count int) (heads []map[string]int, paths []string, e api.Errno) {
	for range count {
		x, behind, e := readSlots(area, at, slotsOf("PK\x01\x02\x14\x00", slot{10, strings.Repeat("\x00", 10), ""}, slot{4, "", "place"}))
		if e != api.OK {
			return nil, nil, e
		}
		if behind+x["length"] > len(area) {
			return nil, nil, api.ErrEnd
		}
		at = behind + x["length"]
		heads, paths = append(heads, x), append(paths, area[behind:at])
	}
	if at != len(area) {
		return nil, nil, api.ErrText
	}
	return heads, paths, api.OK
}

func localsByWords(area string, heads []map[string]int, paths []string) (files []api.File, e api.Errno) {
	at, all := 0, 0
	for i, h := range heads {
		if at != h["place"] {
			return nil, api.ErrText
		}
		x, behind, e := readSlots(area, at, slotsOf("PK\x03\x04"))
		if e != api.OK {
			return nil, e
		}
		for name := range x {
			if x[name] != h[name] {
				return nil, api.ErrText
			}
		}
		pathEnd := behind + len(paths[i])
		if pathEnd > len(area) {
			return nil, api.ErrEnd
		}
		if area[behind:pathEnd] != paths[i] {
			return nil, api.ErrText
		}
		at = pathEnd + h["follow"]
		if at > len(area) {
			return nil, api.ErrEnd
		}
		all += h["size"]
		if all > 1048576 {
			return nil, api.ErrBig
		}
		data, e := dataByWords(h, area[pathEnd:at])
		if e != api.OK {
			return nil, e
		}
		files = append(files, api.File{Path: paths[i], Data: data})
	}
	if at != len(area) {
		return nil, api.ErrText
	}
	if e := checkByWords(files); e != api.OK {
		return nil, e
	}
	return files, api.OK
}

func dataByWords(h map[string]int, follow string) (string, api.Errno) {
	data := follow
	switch {
	case h["method"] == 0 && h["follow"] != h["size"]:
		return "", api.ErrText
	case h["method"] == 8 && h["size"] > 65536:
		return "", api.ErrBig
	case h["method"] == 8:
		// A reader of single bytes isn't read beyond the stream.
		rest := strings.NewReader(follow)
		b, err := io.ReadAll(flate.NewReader(rest))
		if err != nil || len(b) != h["size"] || rest.Len() > 0 {
			return "", api.ErrText
		}
		data = string(b)
	case h["method"] != 0:
		return "", api.ErrKind
	}
	if crc32.ChecksumIEEE([]byte(data)) != uint32(h["crc"]) {
		return "", api.ErrSum
	}
	return data, api.OK
}
