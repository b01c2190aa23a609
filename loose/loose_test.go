package loose

import (
	"bytes"
	stdzlib "compress/zlib"
	"crypto/sha1"
	"encoding/hex"
	"io"
	"math/rand"
	"regexp"
	"slices"
	"strconv"
	"strings"
	"testing"

	"cartulary/api"
	"cartulary/object"
	"cartulary/snap"
	"cartulary/zlib"
)

var kindNames = map[int]string{1: "commit", 2: "tree", 3: "blob", 4: "tag"}

// textOf: an object's text by its words.
func textOf(o api.Object) string {
	return kindNames[o.Kind] + " " + strconv.Itoa(len(o.Data)) + "\x00" + o.Data
}

// nameOf: an object's name, by the library's SHA-1.
func nameOf(o api.Object) string {
	sum := sha1.Sum([]byte(textOf(o)))
	return hex.EncodeToString(sum[:])
}

// pathOf: where a name's file stands, by its words.
func pathOf(id string) string {
	return "objects/" + id[:2] + "/" + id[2:]
}

// folderOf: a folder of these files.
func folderOf(t *testing.T, files ...api.File) *snap.Snap {
	t.Helper()
	s, e := snap.New(files)
	if e != api.OK {
		t.Fatalf("New: %d", e)
	}
	return s
}

// sample: n bytes of all values.
func sample(n int) string {
	random := rand.New(rand.NewSource(int64(n)))
	b := make([]byte, n)
	random.Read(b)
	return string(b)
}

// paths holds Path against what the document asks.
func paths(t *testing.T, id, want string, wantE api.Errno) {
	t.Helper()
	if p, e := Path(id); p != want || e != wantE {
		t.Errorf("Path(%q): %q, %d, not %q, %d", id, p, e, want, wantE)
	}
}

// unpacks holds Unpack against what the document asks.
func unpacks(t *testing.T, s string, want api.Object, wantE api.Errno) {
	t.Helper()
	if o, e := Unpack(s); o != want || e != wantE {
		t.Errorf("Unpack(%.60x): %d, %.40q, %d, not %d, %.40q, %d", s, o.Kind, o.Data, e, want.Kind, want.Data, wantE)
	}
}

// reads holds Read against what the document asks.
func reads(t *testing.T, s *snap.Snap, id string, want api.Object, wantE api.Errno) {
	t.Helper()
	if o, e := Read(s, id); o != want || e != wantE {
		t.Errorf("Read(%q): %d, %.40q, %d, not %d, %.40q, %d", id, o.Kind, o.Data, e, want.Kind, want.Data, wantE)
	}
}

// lists holds List against what the document asks.
func lists(t *testing.T, s *snap.Snap, want ...string) {
	t.Helper()
	if l := List(s); !slices.Equal(l, want) {
		t.Errorf("List: %q, not %q", l, want)
	}
}

const emptyBlob = "e69de29bb2d1d6434b8b29ae775ad8c2e48c5391"

// P9.1: the examples of the document.
func TestExamples(t *testing.T) {
	paths(t, emptyBlob, "objects/e6/9de29bb2d1d6434b8b29ae775ad8c2e48c5391", api.OK)
	paths(t, "e6", "", api.ErrForm)
	other := api.Object{Kind: api.Blob, Data: "other"}
	s := folderOf(t, api.File{Path: "objects/e6/9de29bb2d1d6434b8b29ae775ad8c2e48c5391", Data: zlib.Write(textOf(other))})
	reads(t, s, emptyBlob, api.Object{}, api.ErrSum)
}

// notNames: texts that are no name, with each byte that is no small digit at each place.
func notNames() []string {
	texts := []string{"", "e", "e6", emptyBlob[:39], emptyBlob + "0", emptyBlob + emptyBlob, strings.ToUpper(emptyBlob),
		pathOf(emptyBlob), "e6/" + emptyBlob[2:], emptyBlob[:39] + "\n", emptyBlob + "\n", " " + emptyBlob[1:], strings.Repeat("é", 20), strings.Repeat("0", 64)}
	for place := range 40 {
		for c := range 256 {
			if strings.IndexByte("0123456789abcdef", byte(c)) < 0 {
				texts = append(texts, emptyBlob[:place]+string([]byte{byte(c)})+emptyBlob[place+1:])
			}
		}
	}
	return texts
}

// P9.1: ids that are names, and such as are none.
func TestPath(t *testing.T) {
	for _, c := range "0123456789abcdef" {
		id := strings.Repeat(string(c), 40)
		paths(t, id, pathOf(id), api.OK)
		for place := range 40 {
			id := emptyBlob[:place] + string(c) + emptyBlob[place+1:]
			paths(t, id, pathOf(id), api.OK)
		}
	}
	for _, id := range notNames() {
		paths(t, id, "", api.ErrForm)
	}
}

// files of git's own making.
var byGit = []struct {
	id, bytes string
	kind      int
	size      int
}{
	{"759e91c157082f6df4f6f6ade45403ab92bf95af", "789c25cc410ac2400c4051d7738aec859218682720a2bd49329329154aa50d82b7afe25fbdd50f9d80e8725aede92520f74db4c722c8958cd90773cda45cc4a41173ce3537a9293e2f87b22ecb1c29be8f3775d8e18f936ff08011ae7ab71bd080ff08ce488829b579db231d2e352139", api.Tag, 112},
	{"86f9a60c903d1b33e7bea81a3c9b9f13388d8f9d", "789c7dccbb0a84301046e1adf314d3dbe41f496603b2a86f92cb88161a90f8fe0b62eda93f4eaefbbe3502f3a79daa14153ee53e16380e5f494142ef558a38052b67cf650118265e6dad274d34d310c7f423887da2cec25a93ef75d35764eaa1e60fa0442295", api.Commit, 122},
	{"ae16bc3ad152987b97936e7d75e12e2c62df1121", "789c2b294a4d5530356730343030333151486438c768a6caccbde2f64ab6ef61d3eae7cd593cc5cdcbc400081452186ecd909cbae06325c7e66f9531723c1acb5f6677090200c2ce17ca", api.Tree, 57},
	{"c1b0730e0133447badcfd47fd144e254807b06e1", "789c4bcac94f523064a800000c1b0269", api.Blob, 1},
	{"ce013625030ba8dba906f756967f9e9ca394464a", "789c4bcac94f523063c848cdc9c9e702001dc50414", api.Blob, 6},
	{"da981995a0f17908b3f6795c1e0c28a7e96b8a11", "789c2b294a4d5530b26430343030333151486238b8a1988fd1d8a57aedf92bf5175d1e853454b33d0400dba80dce", api.Tree, 29},
	{emptyBlob, "789c4bcac94f523060000009b001f0", api.Blob, 0},
}

// gitFiles: those files.
func gitFiles(t *testing.T) []api.File {
	t.Helper()
	var files []api.File
	for _, g := range byGit {
		data, err := hex.DecodeString(g.bytes)
		if err != nil {
			t.Fatal(err)
		}
		files = append(files, api.File{Path: pathOf(g.id), Data: string(data)})
	}
	return files
}

// P9.1, P9.3: a folder of git's own making.
func TestByGit(t *testing.T) {
	files := gitFiles(t)
	s := folderOf(t, files...)
	var ids []string
	for i, g := range byGit {
		o, e := Read(s, g.id)
		if e != api.OK || o.Kind != g.kind || len(o.Data) != g.size || nameOf(o) != g.id {
			t.Errorf("%s: %d, %q, %d", g.id, o.Kind, o.Data, e)
		}
		unpacks(t, files[i].Data, o, api.OK)
		ids = append(ids, g.id)
	}
	reads(t, s, "ce013625030ba8dba906f756967f9e9ca394464a", api.Object{Kind: api.Blob, Data: "hello\n"}, api.OK)
	reads(t, s, emptyBlob, api.Object{Kind: api.Blob}, api.OK)
	lists(t, s, ids...)
}

// framed: a frame of the library's making.
func framed(t *testing.T, text string, level int) string {
	t.Helper()
	var out bytes.Buffer
	w, err := stdzlib.NewWriterLevel(&out, level)
	if err != nil {
		t.Fatal(err)
	}
	io.WriteString(w, text)
	w.Close()
	return out.String()
}

// someObjects: of each kind, with few bytes and many.
func someObjects() []api.Object {
	var objects []api.Object
	for kind := 1; kind <= 4; kind++ {
		for _, n := range []int{0, 1, 2, 9, 10, 99, 100, 999, 1000, 9999, 10000, 32768, 64999, 65000} {
			objects = append(objects, api.Object{Kind: kind, Data: sample(n)}, api.Object{Kind: kind, Data: strings.Repeat("ab\x00", n)[:n]})
		}
	}
	return objects
}

// P9.1: frames of any making.
func TestUnpack(t *testing.T) {
	for _, o := range someObjects() {
		text := textOf(o)
		for _, level := range []int{-2, 0, 1, 6, 9} {
			unpacks(t, framed(t, text, level), o, api.OK)
		}
		unpacks(t, zlib.Plain(text), o, api.OK)
		unpacks(t, zlib.Write(text), o, api.OK)
	}
}

// P9.1: what is no frame has zlib.Read's error.
func TestUnpackNoFrame(t *testing.T) {
	for s, want := range map[string]api.Errno{
		"":                                 api.ErrEnd,
		"x":                                api.ErrEnd,
		"\x78\x01":                         api.ErrEnd,
		"\x78\x02\x03\x00":                 api.ErrText,
		"\x78\x01\x07":                     api.ErrText,
		"blob 0\x00":                       api.ErrText,
		"PACK\x00\x00\x00\x02":             api.ErrText,
		"\x78\x01\x03\x00\x00\x00":         api.ErrEnd,
		"\x78\x01\x03\x00\x00\x00\x00\x02": api.ErrSum,
		" " + zlib.Write("blob 0\x00"):     api.ErrText,
	} {
		unpacks(t, s, api.Object{}, want)
	}
}

// P9.1: a frame that is cut short anywhere, or that has bytes behind it.
func TestUnpackCutAndBehind(t *testing.T) {
	for _, f := range gitFiles(t) {
		for n := range f.Data {
			unpacks(t, f.Data[:n], api.Object{}, api.ErrEnd)
		}
		for _, behind := range []string{"\x00", "z", "\n", f.Data, "\x78\x01", sample(3000)} {
			unpacks(t, f.Data+behind, api.Object{}, api.ErrText)
		}
	}
}

// P9.1: frames that say no object have Decode's error.
func TestUnpackNoObject(t *testing.T) {
	for text, want := range map[string]api.Errno{
		"":                api.ErrText,
		"blob":            api.ErrText,
		"blob 2":          api.ErrText,
		"blob2\x00hi":     api.ErrText,
		"blob 02\x00hi":   api.ErrText,
		"blob  2\x00hi":   api.ErrText,
		"blob 2 \x00hi":   api.ErrText,
		"blob 1\x00hi":    api.ErrText,
		"blob 3\x00hi":    api.ErrEnd,
		"blip 2\x00hi":    api.ErrKind,
		"BLOB 2\x00hi":    api.ErrKind,
		" 2\x00hi":        api.ErrKind,
		"blob 65001\x00h": api.ErrBig,
		"blob 65001\x00" + strings.Repeat("a", 65001): api.ErrBig,
		"blob 65000\x00" + strings.Repeat("a", 65001): api.ErrText,
		"blob 65000\x00" + strings.Repeat("a", 64999): api.ErrEnd,
	} {
		unpacks(t, zlib.Write(text), api.Object{}, want)
		unpacks(t, zlib.Plain(text), api.Object{}, want)
		if _, e := object.Decode(text); e != want {
			t.Errorf("Decode(%.20q): %d", text, e)
		}
	}
}

// P9.1: a frame says at most MaxBytes bytes, whatever its object would be.
func TestUnpackLimit(t *testing.T) {
	within := textOf(api.Object{Kind: api.Blob, Data: strings.Repeat("a", 65536-11)})
	if len(within) != api.MaxBytes {
		t.Fatalf("%d bytes", len(within))
	}
	// With the number's own error behind the limit's, the two can be told apart.
	wrong := strings.Replace(within, "blob", "blip", 1)
	unpacks(t, framed(t, within, 6), api.Object{}, api.ErrBig)
	unpacks(t, framed(t, wrong, 6), api.Object{}, api.ErrKind)
	unpacks(t, framed(t, wrong+"a", 6), api.Object{}, api.ErrBig)
	unpacks(t, framed(t, strings.Repeat("a", 70000), 6), api.Object{}, api.ErrBig)
	unpacks(t, framed(t, strings.Repeat("a", 1<<20), 9), api.Object{}, api.ErrBig)
}

// P9.1: of two errors, the one that is named first.
func TestUnpackOrder(t *testing.T) {
	turned := func(s string) string {
		b := []byte(s)
		b[len(b)-1] ^= 1
		return string(b)
	}
	good, kind, number, short := zlib.Write("blob 2\x00hi"), zlib.Write("blip 2\x00hi"), zlib.Write("blob 65001\x00"), zlib.Write("blob 3\x00hi")
	unpacks(t, turned(good), api.Object{}, api.ErrSum)
	unpacks(t, turned(good)+"z", api.Object{}, api.ErrSum)
	unpacks(t, turned(kind), api.Object{}, api.ErrSum)
	unpacks(t, turned(number), api.Object{}, api.ErrSum)
	for _, s := range []string{kind, number, short} {
		unpacks(t, s+"z", api.Object{}, api.ErrText)
	}
	unpacks(t, kind[:len(kind)-1], api.Object{}, api.ErrEnd)
	unpacks(t, framed(t, strings.Repeat("a", 65537), 6)+"z", api.Object{}, api.ErrBig)
}

// P9.1: the errors of Path, of Get, of Unpack and of the name, in that order.
func TestReadOrder(t *testing.T) {
	const id = "0123456789abcdef0123456789abcdef01234567"
	none := new(snap.Snap)
	for _, wrong := range notNames() {
		reads(t, none, wrong, api.Object{}, api.ErrForm)
	}
	reads(t, none, id, api.Object{}, api.ErrAbsent)
	for data, want := range map[string]api.Errno{
		"":                              api.ErrEnd,
		"blob 0\x00":                    api.ErrText,
		zlib.Write("blob 0\x00"):        api.ErrSum,
		zlib.Write("blob 0\x00") + "z":  api.ErrText,
		zlib.Write("blip 0\x00"):        api.ErrKind,
		zlib.Write("blob 1\x00"):        api.ErrEnd,
		zlib.Write("blob 65001\x00"):    api.ErrBig,
		zlib.Write(""):                  api.ErrText,
		zlib.Write("no object at all"):  api.ErrText,
		framed(t, sample(65537), 6):     api.ErrBig,
		zlib.Write("blob 0\x00")[:8]:    api.ErrEnd,
		zlib.Plain("blob 5\x00" + "hi"): api.ErrEnd,
	} {
		reads(t, folderOf(t, api.File{Path: pathOf(id), Data: data}), id, api.Object{}, want)
	}
}

// P9.1: a file counts under its own path alone.
func TestReadElsewhere(t *testing.T) {
	data := zlib.Write("blob 0\x00")
	for _, path := range []string{emptyBlob, "objects/" + emptyBlob, "e6/" + emptyBlob[2:], ".git/" + pathOf(emptyBlob), "Objects/e6/" + emptyBlob[2:],
		"objects/e69/" + emptyBlob[3:], "objects/E6/" + strings.ToUpper(emptyBlob[2:]), pathOf(emptyBlob) + "0", pathOf(emptyBlob)[:48], pathOf(emptyBlob) + "/a"} {
		s := folderOf(t, api.File{Path: path, Data: data})
		reads(t, s, emptyBlob, api.Object{}, api.ErrAbsent)
		for _, wrong := range []string{path, strings.ToUpper(emptyBlob), emptyBlob + "0", emptyBlob[:39]} {
			if wrong != emptyBlob {
				reads(t, s, wrong, api.Object{}, api.ErrForm)
			}
		}
	}
	s := folderOf(t, api.File{Path: pathOf(emptyBlob), Data: data})
	reads(t, s, emptyBlob, api.Object{Kind: api.Blob}, api.OK)
}

// P9.4: an object under another one's name, also one that differs in its kind alone.
func TestAnothersName(t *testing.T) {
	objects := []api.Object{{Kind: api.Blob}, {Kind: api.Tree}, {Kind: api.Commit}, {Kind: api.Tag}, {Kind: api.Blob, Data: "a"}, {Kind: api.Blob, Data: "a\n"}, {Kind: api.Tag, Data: "a"}, {Kind: api.Blob, Data: "\x00"}}
	for _, under := range objects {
		for _, o := range objects {
			s := folderOf(t, api.File{Path: pathOf(nameOf(under)), Data: zlib.Write(textOf(o))})
			if o == under {
				reads(t, s, nameOf(under), o, api.OK)
			} else {
				reads(t, s, nameOf(under), api.Object{}, api.ErrSum)
				reads(t, s, nameOf(o), api.Object{}, api.ErrAbsent)
			}
			lists(t, s, nameOf(under))
		}
	}
}

// P9.4: a name that differs from the object's own in one digit.
func TestNearName(t *testing.T) {
	data := zlib.Write("blob 0\x00")
	for place := range 40 {
		digit := "0"
		if emptyBlob[place] == '0' {
			digit = "1"
		}
		id := emptyBlob[:place] + digit + emptyBlob[place+1:]
		s := folderOf(t, api.File{Path: pathOf(id), Data: data})
		reads(t, s, id, api.Object{}, api.ErrSum)
		reads(t, s, emptyBlob, api.Object{}, api.ErrAbsent)
	}
}

// named: what Read answers has the name that was asked for, or is an error with the zero object beside it.
func named(t *testing.T, s *snap.Snap, id string) bool {
	t.Helper()
	o, e := Read(s, id)
	if e != api.OK {
		if o != (api.Object{}) {
			t.Errorf("%s: %d, and an object", id, e)
		}
		return false
	}
	if nameOf(o) != id {
		t.Errorf("%s: an object of the name %s", id, nameOf(o))
	}
	return true
}

// P9.4: files of git's making with each bit turned.
func TestTurnedBits(t *testing.T) {
	same, other := 0, 0
	for _, f := range gitFiles(t) {
		id := f.Path[8:10] + f.Path[11:]
		for i := range 8 * len(f.Data) {
			b := []byte(f.Data)
			b[i/8] ^= 1 << (i % 8)
			if named(t, folderOf(t, api.File{Path: f.Path, Data: string(b)}), id) {
				same++
			} else {
				other++
			}
		}
	}
	// A turned bit in the room behind a stream's last symbol says nothing.
	if same == 0 || other < 3000 {
		t.Errorf("%d are read, %d are not", same, other)
	}
}

// P9.4: files of bytes that anyone might have put there, under names that anyone might have chosen.
func TestHostileFiles(t *testing.T) {
	random := rand.New(rand.NewSource(9))
	objects := someObjects()[:20]
	read, refused := 0, 0
	for range 3000 {
		o, under := objects[random.Intn(len(objects))], objects[random.Intn(len(objects))]
		if random.Intn(2) == 0 {
			under = o
		}
		b := []byte(zlib.Write(textOf(o)))
		switch random.Intn(5) {
		case 0:
			b[random.Intn(len(b))] = byte(random.Intn(256))
		case 1:
			b = b[:random.Intn(len(b))]
		case 2:
			b = append(b, b[:random.Intn(len(b))]...)
		case 3:
			random.Read(b)
		}
		if named(t, folderOf(t, api.File{Path: pathOf(nameOf(under)), Data: string(b)}), nameOf(under)) {
			read++
		} else {
			refused++
		}
	}
	if read < 300 || refused < 300 {
		t.Errorf("%d are read, %d are not", read, refused)
	}
}

// P9.2: what is written is read back, by Read, by Unpack and by the library.
func TestWrite(t *testing.T) {
	for _, o := range someObjects() {
		f, e := Write(o)
		if e != api.OK || f.Path != pathOf(nameOf(o)) {
			t.Fatalf("Write(%d, %d bytes): %q, %d", o.Kind, len(o.Data), f.Path, e)
		}
		unpacks(t, f.Data, o, api.OK)
		s := folderOf(t, f)
		reads(t, s, nameOf(o), o, api.OK)
		lists(t, s, nameOf(o))
		r, err := stdzlib.NewReader(strings.NewReader(f.Data))
		if err != nil {
			t.Fatal(err)
		}
		if text, err := io.ReadAll(r); err != nil || string(text) != textOf(o) {
			t.Errorf("Write(%d, %d bytes): the library reads %.40q, %v", o.Kind, len(o.Data), text, err)
		}
		if again, _ := Write(o); again != f {
			t.Errorf("Write(%d, %d bytes): twice, and not the same", o.Kind, len(o.Data))
		}
	}
}

// P9.2: all written objects in one folder.
func TestWriteMany(t *testing.T) {
	var files []api.File
	var ids []string
	for i := range 500 {
		o := api.Object{Kind: 1 + i%4, Data: "the object " + strconv.Itoa(i)}
		f, e := Write(o)
		if e != api.OK {
			t.Fatalf("Write: %d", e)
		}
		files = append(files, f)
		ids = append(ids, nameOf(o))
	}
	s := folderOf(t, files...)
	for i, id := range ids {
		reads(t, s, id, api.Object{Kind: 1 + i%4, Data: "the object " + strconv.Itoa(i)}, api.OK)
	}
	slices.Sort(ids)
	lists(t, s, ids...)
}

// P9.2: the errors of Check: no kind, then too many bytes.
func TestWriteWrong(t *testing.T) {
	big := strings.Repeat("a", 65001)
	for kind := -9; kind < 20; kind++ {
		isKind := kind >= 1 && kind <= 4
		for _, data := range []string{"", "a", big[:65000], big, big + big} {
			want := api.OK
			if !isKind {
				want = api.ErrKind
			} else if len(data) > 65000 {
				want = api.ErrBig
			}
			f, e := Write(api.Object{Kind: kind, Data: data})
			if e != want || (f != api.File{}) != (want == api.OK) {
				t.Errorf("Write(%d, %d bytes): %q, %d, not %d", kind, len(data), f.Path, e, want)
			}
		}
	}
}

// P9.3: files beside the objects' own.
func TestListBeside(t *testing.T) {
	const a, b = "aa00000000000000000000000000000000000001", "ab00000000000000000000000000000000000000"
	beside := []string{
		"HEAD", "config", "packed-refs", "refs/heads/main", "logs/HEAD",
		"objects/info/packs", "objects/info/alternates", "objects/pack/pack-" + a + ".pack", "objects/pack/pack-" + a + ".idx",
		"objects/pack/" + a[2:], "objects/" + a, "objects/aa0/" + a[3:], "objects/a/" + a[1:], "objects/aa/0/" + a[3:], "objects/aa/" + a[2:39], "objects/aa/" + a[2:] + "0",
		"objects/aa/" + a[2:39] + "g", "objects/aa/" + a[2:39] + "A", "objects/AA/" + a[2:], "objects/ag/" + a[2:], "objects/aa/" + a[2:39] + " ", "objects/aa/tmp_obj_x",
		"objects/a~/" + a[2:], "objects/ac/" + a[2:] + "/x", "objects-/aa/" + a[2:], "objects.aa/" + a[2:], "object/aa/" + a[2:], "Objects/aa/" + a[2:],
		"x/" + pathOf(a), ".git/" + pathOf(a), "aa/" + a[2:], a, "objectsaa/" + a[2:],
		// Files that would be an object's if slashes were left out.
		"objects/aa00/" + a[4:], "objects/ad/00/" + a[4:],
	}
	var files []api.File
	for _, path := range beside {
		files = append(files, api.File{Path: path, Data: zlib.Write("blob 0\x00")})
	}
	lists(t, folderOf(t, files...))
	// Whatever a file holds, its path alone counts.
	files = append(files, api.File{Path: pathOf(b), Data: "no frame"}, api.File{Path: pathOf(a)})
	lists(t, folderOf(t, files...), a, b)
}

// P9.3: no files; a file called objects; only files beside.
func TestListNone(t *testing.T) {
	lists(t, new(snap.Snap))
	lists(t, folderOf(t))
	lists(t, folderOf(t, api.File{Path: "objects"}))
	lists(t, folderOf(t, api.File{Path: "a/b"}, api.File{Path: "objects/aa/b"}))
}

// P9.3: the names rise, in whatever order the files were handed in.
func TestListRises(t *testing.T) {
	random := rand.New(rand.NewSource(93))
	var files []api.File
	var ids []string
	for i := range 2000 {
		sum := sha1.Sum([]byte(strconv.Itoa(i)))
		id := hex.EncodeToString(sum[:])
		if i%3 == 0 {
			id = "00" + id[2:]
		}
		ids = append(ids, id)
		files = append(files, api.File{Path: pathOf(id)})
	}
	random.Shuffle(len(files), func(i, k int) { files[i], files[k] = files[k], files[i] })
	slices.Sort(ids)
	lists(t, folderOf(t, files...), ids...)
}

var ownPath = regexp.MustCompile(`^objects/([0-9a-f]{2})/([0-9a-f]{38})\z`)

// P9.3: paths that are nearly an object's, against a pattern.
func TestListAgainstPattern(t *testing.T) {
	random := rand.New(rand.NewSource(39))
	found, other := 0, 0
	for range 4000 {
		b := []byte(pathOf(strings.Repeat("0123456789abcdef", 3)[random.Intn(8):][:40]))
		for range random.Intn(3) {
			at := random.Intn(len(b))
			switch random.Intn(3) {
			case 0:
				b[at] = "0189afgA/."[random.Intn(10)]
			case 1:
				b = slices.Delete(b, at, at+1)
			case 2:
				b = slices.Insert(b, at, "0189afgA/."[random.Intn(10)])
			}
		}
		s, e := snap.New([]api.File{{Path: string(b)}})
		if e != api.OK {
			continue
		}
		if m := ownPath.FindStringSubmatch(string(b)); m != nil {
			found++
			lists(t, s, m[1]+m[2])
		} else {
			other++
			lists(t, s)
		}
	}
	if found < 500 || other < 500 {
		t.Errorf("%d own paths, %d others", found, other)
	}
}

// P9.3: a list that was answered is nobody else's.
func TestListIsNew(t *testing.T) {
	s := folderOf(t, gitFiles(t)...)
	want := slices.Clone(List(s))
	one, two := List(s), List(s)
	_ = append(one, "behind")
	for i := range one {
		one[i] = "spoilt"
	}
	if !slices.Equal(two, want) {
		t.Errorf("two answers share memory: %q", two)
	}
	lists(t, s, want...)
	reads(t, s, emptyBlob, api.Object{Kind: api.Blob}, api.OK)
}
