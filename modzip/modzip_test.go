package modzip

import (
	"fmt"
	"math/rand"
	"slices"
	"strings"
	"testing"

	"cartulary/api"
	"cartulary/zip"
)

// packs holds Pack against an error, or against the archive of zip.Write and what Unpack reads back.
func packs(t *testing.T, what, module, version string, l []api.File, want api.Errno) {
	t.Helper()
	s, e := Pack(module, version, l)
	if e != want || e != api.OK && s != "" {
		t.Errorf("%s: Pack(%.60q, %.60q, %.200v): %d bytes, %d, not %d", what, module, version, fmt.Sprint(l), len(s), e, want)
		return
	}
	if e != api.OK {
		return
	}
	if archive, e := zip.Write(fronted(module, version, l)); archive != s || e != api.OK {
		t.Errorf("%s: Pack(%q, %q, %.200v) isn't what Write writes, %d", what, module, version, fmt.Sprint(l), e)
	}
	unpacks(t, what, module, version, s, api.OK, l...)
}

// fronted: the files with module, version and a slash ahead of their paths.
func fronted(module, version string, l []api.File) []api.File {
	var whole []api.File
	for _, f := range l {
		whole = append(whole, api.File{Path: module + "@" + version + "/" + f.Path, Data: f.Data})
	}
	return whole
}

// unpacks holds Unpack against what the document asks.
func unpacks(t *testing.T, what, module, version, s string, wantE api.Errno, want ...api.File) {
	t.Helper()
	l, e := Unpack(module, version, s)
	if e != wantE || !slices.Equal(l, want) || e != api.OK && l != nil {
		t.Errorf("%s: Unpack(%.60q, %.60q, %d bytes): %.200v, %d, not %.200v, %d", what, module, version, len(s), fmt.Sprint(l), e, fmt.Sprint(want), wantE)
	}
}

// sorted: files of these paths, rising.
func sorted(paths ...string) []api.File {
	slices.Sort(paths)
	return files("", paths...)
}

// written: an archive of these files, as zip.Write writes it.
func written(t *testing.T, l ...api.File) string {
	t.Helper()
	s, e := zip.Write(l)
	if e != api.OK {
		t.Fatalf("Write: %d", e)
	}
	return s
}

// P24.2: Front of any texts.
func TestFront(t *testing.T) {
	for _, c := range [][3]string{
		{"example.com/m", "v1.0.0", "example.com/m@v1.0.0/"}, {"", "", "@/"}, {"a", "", "a@/"}, {"", "v", "@v/"}, {"a@b", "c/d", "a@b@c/d/"}, {"\x00", "é", "\x00@é/"},
		{"example.com/m/v2", "v2.0.0+incompatible", "example.com/m/v2@v2.0.0+incompatible/"},
	} {
		if got := Front(c[0], c[1]); got != c[2] {
			t.Errorf("Front(%q, %q): %q", c[0], c[1], got)
		}
	}
}

// P24.2: what is packed is read back.
func TestPack(t *testing.T) {
	const m, v = "example.com/m", "v1.0.0"
	packs(t, "nothing", m, v, nil, api.OK)
	packs(t, "nothing", m, v, []api.File{}, api.OK)
	packs(t, "one", m, v, files("x", "go.mod"), api.OK)
	packs(t, "several", m, v, []api.File{{Path: "LICENSE"}, {Path: "a.go", Data: "x"}, {Path: "a/b c", Data: "\x00\xff"}, {Path: "go.mod", Data: "module example.com/m\n"}}, api.OK)
	packs(t, "other texts", "m", "", files("", "a"), api.OK)
	packs(t, "other texts", "a b", "c/d", files("", "a", "b"), api.OK)
	packs(t, "other texts", "", "", files("", "a"), api.OK)
	// A front that is no path is refused by Write, if it stands ahead of a file.
	for _, c := range [][2]string{{"/m", v}, {"m//n", v}, {"m/.", ".//"}, {"m", "//v"}, {"m", "v/"}, {"m", "v/.."}, {"../m", v}, {"é", v}, {"m", "\n"}} {
		packs(t, "a front that is no path", c[0], c[1], files("", "a"), api.ErrForm)
		packs(t, "a front that is no path, and nothing", c[0], c[1], nil, api.OK)
	}
}

// P24.2: Pack's errors, in their order.
func TestPackErrors(t *testing.T) {
	const m, v = "example.com/m", "v1.0.0"
	most := strings.Repeat("x", 500000)
	for _, p := range []string{"", "a:b", "a.", "/a", "a//b", "..", "é", "a\x00", "*", strings.Repeat("a", 201)} {
		packs(t, "no file's path", m, v, files("", p), api.ErrForm)
		packs(t, "no file's path, then doubles", m, v, files("", p, "A", "a"), api.ErrForm)
		packs(t, "no file's path, too much", m, v, []api.File{{Path: "a", Data: most}, {Path: p, Data: "x"}}, api.ErrForm)
	}
	for _, l := range [][]string{{"A", "a"}, {"a", "a"}, {"A.go", "B", "a.go"}} {
		packs(t, "doubles", m, v, files("", l...), api.ErrDouble)
		packs(t, "doubles, too much", m, v, append(files("", l...), api.File{Path: "x", Data: most + "x"}), api.ErrDouble)
		packs(t, "doubles, falling", m, v, append(files("", l...), api.File{Path: " "}), api.ErrDouble)
		packs(t, "doubles, a front that is no path", "/", v, files("", l...), api.ErrDouble)
	}
	packs(t, "500000 bytes", m, v, []api.File{{Path: "a", Data: most}, {Path: "b"}}, api.OK)
	packs(t, "500001 bytes", m, v, []api.File{{Path: "a", Data: most}, {Path: "b", Data: "x"}}, api.ErrBig)
	packs(t, "500001 bytes, falling", m, v, []api.File{{Path: "b", Data: most}, {Path: "a", Data: "x"}}, api.ErrBig)
	packs(t, "500001 bytes, a front that is no path", "", "\n", []api.File{{Path: "a", Data: most + "x"}}, api.ErrBig)
	packs(t, "500001 bytes, a front that is too long", strings.Repeat("m", 300), v, []api.File{{Path: "a", Data: most + "x"}}, api.ErrBig)
	var many []api.File
	for i := range 601 {
		many = append(many, files("", fmt.Sprintf("%03d", i))...)
	}
	packs(t, "600 files", m, v, many[:600], api.OK)
	packs(t, "601 files", m, v, many, api.ErrBig)
	packs(t, "falling", m, v, files("", "b", "a"), api.ErrForm)
	packs(t, "falling", m, v, files("", "a", "a/b", "a.b"), api.ErrForm)
}

// P24.2: files whose paths with Front ahead are too long.
func TestPackLong(t *testing.T) {
	const m, v = "example.com/m", "v1.0.0"
	front := len("example.com/m@v1.0.0/")
	packs(t, "200 bytes", m, v, files("", strings.Repeat("a", 200-front)), api.OK)
	packs(t, "201 bytes", m, v, files("", strings.Repeat("a", 201-front)), api.ErrForm)
	packs(t, "one of several", m, v, files("", "a", strings.Repeat("b", 201-front), "c"), api.ErrForm)
	for n := 190; n < 210; n++ {
		long := strings.Repeat("m", n)
		want := api.OK
		if n+len("@v/a") > 200 {
			want = api.ErrForm
		}
		packs(t, fmt.Sprint("a module of ", n), long, "v", files("", "a"), want)
		packs(t, fmt.Sprint("a module of ", n, ", and nothing"), long, "v", nil, api.OK)
		packs(t, fmt.Sprint("a version of ", n), "v", long, files("", "a"), want)
	}
	// So long a front that putting it ahead of each file would take all memory.
	huge := strings.Repeat("m", 1<<25)
	var many []api.File
	for i := range 600 {
		many = append(many, files("", fmt.Sprintf("%03d", i))...)
	}
	packs(t, "a huge module", huge, "v", many, api.ErrForm)
	packs(t, "a huge version", "m", huge, many, api.ErrForm)
	packs(t, "a huge module and a wrong path", huge, "v", append(many[:599:599], api.File{Path: "a:"}), api.ErrForm)
	packs(t, "a huge module and doubles", huge, "v", files("", "A", "a"), api.ErrDouble)
}

// P24.2: archives that Read refuses, whose paths don't begin with Front, or behind it aren't a module's.
func TestUnpackErrors(t *testing.T) {
	const m, v = "example.com/m", "v1.0.0"
	good := written(t, fronted(m, v, files("", "a", "go.mod"))...)
	unpacks(t, "an archive", m, v, good, api.OK, files("", "a", "go.mod")...)
	unpacks(t, "no file", m, v, written(t), api.OK)
	unpacks(t, "no file, of any module", "\x00", "", written(t), api.OK)
	unpacks(t, "no bytes", m, v, "", api.ErrEnd)
	unpacks(t, "no archive", m, v, strings.Repeat("x", 22), api.ErrText)
	unpacks(t, "too many bytes", m, v, strings.Repeat("x", 2*1048576+1), api.ErrBig)
	data := strings.Index(good, "/a") + 2
	unpacks(t, "another sum", m, v, good[:data]+"A"+good[data+1:], api.ErrSum)
	unpacks(t, "another sum, of another module", "other", v, good[:data]+"A"+good[data+1:], api.ErrSum)
	method := []byte(good)
	method[8], method[strings.Index(good, "PK\x01\x02")+10] = 9, 9
	unpacks(t, "another method", m, v, string(method), api.ErrKind)
	for _, c := range [][2]string{{m, "v1.0.1"}, {m, "v1.0"}, {m, ""}, {"example.com", v}, {"example.com/", v}, {"example.com/M", v}, {"", v}, {"", ""}, {m + "@v1.0.0/a", ""}, {"xexample.com/m", v}} {
		unpacks(t, "another module", c[0], c[1], good, api.ErrForm)
	}
	unpacks(t, "a front cut otherwise", "example.com/m@v1.0.0", "x", written(t, fronted("example.com/m@v1.0.0", "x", files("", "a"))...), api.OK, files("", "a")...)
	unpacks(t, "one of another module, first", m, v, written(t, append(fronted("a.com", v, files("", "a")), fronted(m, v, files("", "a"))...)...), api.ErrForm)
	unpacks(t, "one of another module, last", m, v, written(t, append(fronted(m, v, files("", "a")), fronted("f.com", v, files("", "a"))...)...), api.ErrForm)
	unpacks(t, "a file where the front's folder is", m, v, written(t, api.File{Path: m + "@" + v}), api.ErrForm)
	// Behind Front.
	most := strings.Repeat("x", 500000)
	for _, p := range []string{"a:b", "a.", "a./b", "*", "a\\b", "..."} {
		unpacks(t, "no file's path", m, v, written(t, fronted(m, v, sorted(p, " "))...), api.ErrForm)
		unpacks(t, "no file's path, then doubles", m, v, written(t, fronted(m, v, sorted(p, "A", "a"))...), api.ErrForm)
		unpacks(t, "no file's path, too much", m, v, written(t, fronted(m, v, []api.File{{Path: " ", Data: most + "x"}, {Path: p}})...), api.ErrForm)
	}
	unpacks(t, "doubles", m, v, written(t, fronted(m, v, files("", "A", "a"))...), api.ErrDouble)
	unpacks(t, "doubles, too much", m, v, written(t, fronted(m, v, []api.File{{Path: "A", Data: most}, {Path: "a", Data: "x"}})...), api.ErrDouble)
	unpacks(t, "doubles, another module", m, "v2", written(t, fronted(m, v, files("", "A", "a"))...), api.ErrForm)
	unpacks(t, "500000 bytes", m, v, written(t, fronted(m, v, []api.File{{Path: "a", Data: most}})...), api.OK, api.File{Path: "a", Data: most})
	unpacks(t, "500001 bytes", m, v, written(t, fronted(m, v, []api.File{{Path: "a", Data: most + "x"}})...), api.ErrBig)
	unpacks(t, "500001 bytes, another module", m, "v2", written(t, fronted(m, v, []api.File{{Path: "a", Data: most + "x"}})...), api.ErrForm)
	unpacks(t, "1048576 bytes", m, v, written(t, fronted(m, v, []api.File{{Path: "a", Data: (most + most + most)[:1048576]}})...), api.ErrBig)
}

// P24.2: a deflated archive is unpacked, too: Pack's is not the only one.
func TestUnpackDeflated(t *testing.T) {
	// "a" of m@v in the fixed code.
	const facts = "\x14\x00\x00\x00\x08\x00\x00\x00\x00\x00\x43\xbe\xb7\xe8\x03\x00\x00\x00\x01\x00\x00\x00\x05\x00\x00\x00"
	s := "PK\x03\x04" + facts + "m@v/a" + "\x4b\x04\x00" +
		"PK\x01\x02\x14\x00" + facts + strings.Repeat("\x00", 14) + "m@v/a" +
		"PK\x05\x06\x00\x00\x00\x00\x01\x00\x01\x00\x33\x00\x00\x00\x26\x00\x00\x00\x00\x00"
	unpacks(t, "deflated", "m", "v", s, api.OK, api.File{Path: "a", Data: "a"})
}

// P24.1 to P24.3: any items: what Select answers is packed and read back, and hashed as the document's words say.
func TestRound(t *testing.T) {
	random := rand.New(rand.NewSource(2))
	rounds := 0
	for range 5000 {
		l, e := Select(someItems(random), "")
		if e != api.OK {
			continue
		}
		rounds++
		packs(t, "what Select answers", "example.com/m", "v1.2.3", l, api.OK)
		if h, want := Hash("example.com/m", "v1.2.3", l), hashByWords("example.com/m", "v1.2.3", l); h != want {
			t.Errorf("Hash(%v): %s, not %s", l, h, want)
		}
	}
	if rounds < 500 {
		t.Errorf("only %d rounds", rounds)
	}
}

// P24.3: nothing, one file, several in any order, files of one path; any texts.
func TestHash(t *testing.T) {
	hashes := func(what, module, version string, l []api.File) string {
		t.Helper()
		h := Hash(module, version, l)
		if want := hashByWords(module, version, l); h != want {
			t.Errorf("%s: Hash(%q, %q, %.100v): %s, not %s", what, module, version, fmt.Sprint(l), h, want)
		}
		return h
	}
	for _, none := range [][]api.File{nil, {}} {
		if h := hashes("nothing", "m", "v", none); h != "h1:47DEQpj8HBSa+/TImW+5JCeuQeRkm5NMpJWZG3hSuFU=" {
			t.Errorf("nothing: %s", h)
		}
	}
	one := hashes("one", "m", "v", files("x", "a"))
	for _, h := range []string{
		hashes("another path", "m", "v", []api.File{{Path: "b", Data: "xa"}}), hashes("other bytes", "m", "v", []api.File{{Path: "a", Data: "xb"}}),
		hashes("another module", "n", "v", files("x", "a")), hashes("another version", "m", "w", files("x", "a")), hashes("two", "m", "v", files("x", "a", "b")),
	} {
		if h == one {
			t.Errorf("the same hash: %s", h)
		}
	}
	l := []api.File{{Path: "B", Data: "1"}, {Path: "a", Data: ""}, {Path: "a.b", Data: "3"}, {Path: "a/b", Data: "\x00"}}
	inOrder := hashes("in order", "m", "v", l)
	random := rand.New(rand.NewSource(3))
	for range 50 {
		random.Shuffle(len(l), func(i, k int) { l[i], l[k] = l[k], l[i] })
		if h := hashes("in any order", "m", "v", l); h != inOrder {
			t.Errorf("Hash(%v): %s, not %s", l, h, inOrder)
		}
	}
	// Files of one path in their order, and whatever stands between them.
	x, y, z := api.File{Path: "a", Data: "x"}, api.File{Path: "a", Data: "y"}, api.File{Path: "b", Data: "z"}
	xy, yx := hashes("one path", "m", "v", []api.File{x, y}), hashes("one path", "m", "v", []api.File{y, x})
	if xy == yx {
		t.Errorf("files of one path in another order: %s", xy)
	}
	xyz := hashes("one path", "m", "v", []api.File{x, y, z})
	if hashes("one path", "m", "v", []api.File{z, x, y}) != xyz || hashes("one path", "m", "v", []api.File{x, z, y}) != xyz {
		t.Error("a file of another path matters")
	}
	var many []api.File
	for i := range 2000 {
		many = append(many, api.File{Path: fmt.Sprint(i % 7), Data: fmt.Sprint(i)})
	}
	hashes("many of few paths", "m", "v", many)
	hashes("what is no path", "", "\n", []api.File{{Path: "", Data: "x"}, {Path: "..", Data: "y"}, {Path: "é\xff", Data: "z"}, {Path: "a:", Data: strings.Repeat("x", 600000)}})
}

// P24.1 to P24.3: a hash that the go command (1.27) tells of the archive of these files, which it took.
func TestHashOfGo(t *testing.T) {
	all := []Item{
		{"LICENSE", plain, "free\n"},
		{"README.md", plain, "read me\n"},
		{"sub/go.mod", plain, "module example.com/repo/sub\n"},
		{"sub/b.go", runs, "package sub\n\nconst B = 1\n"},
		{"sub/Zed.go", plain, "package sub\n"},
		{"sub/inner/c.go", plain, "package inner\n" + strings.Repeat("// c\n", 1000)},
		{"sub/vendor/x/x.go", plain, "package x\n"},
		{"sub/other/go.mod", plain, "module example.com/repo/sub/other\n"},
		{"sub/other/d.go", plain, "package other\n"},
		{"sub/empty", plain, ""},
	}
	l, e := Select(all, "sub")
	if e != api.OK || len(l) != 6 {
		t.Fatalf("Select: %v, %d", l, e)
	}
	if h := Hash("example.com/repo/sub", "v0.2.0", l); h != "h1:cQ6X5aKpaodmmHeBbT6NXLNrHhm/mcMZZLFXTRy6hag=" {
		t.Errorf("Hash: %s", h)
	}
	packs(t, "go's", "example.com/repo/sub", "v0.2.0", l, api.OK)
}

// P24.4: what is handed in, and the spare room behind it, stays as it is; whoever changes it or an answer changes no other answer.
func TestMemory(t *testing.T) {
	random := rand.New(rand.NewSource(4))
	for range 2000 {
		whole := append(someItems(random), items("z", "y")...)
		random.Shuffle(len(whole), func(i, k int) { whole[i], whole[k] = whole[k], whole[i] })
		kept := slices.Clone(whole)
		part := whole[:len(whole)-1]
		dir := []string{"", "d", "a"}[random.Intn(3)]
		one, e := Select(part, dir)
		two, _ := Select(part, dir)
		if !slices.Equal(whole, kept) {
			t.Fatalf("changed: %v, not %v", whole, kept)
		}
		if e != api.OK {
			continue
		}
		want := slices.Clone(one)
		for i := range whole {
			whole[i] = Item{Path: "changed"}
		}
		if !slices.Equal(one, want) {
			t.Errorf("an answer changed with what was handed in: %v", one)
		}
		scribble(one)
		if !slices.Equal(two, want) {
			t.Errorf("another answer: %v, not %v", two, want)
		}
		memoryOfFiles(t, random, want)
	}
}

// scribble changes a list and the spare room behind it.
func scribble(l []api.File) {
	l = l[:cap(l)]
	for i := range l {
		l[i] = api.File{Path: "changed"}
	}
}

// memoryOfFiles does the same for the functions that are handed files.
func memoryOfFiles(t *testing.T, random *rand.Rand, l []api.File) {
	t.Helper()
	whole := append(slices.Clone(l), files("", "spare", "room")...)
	if random.Intn(2) == 0 {
		slices.Reverse(whole)
	}
	kept := slices.Clone(whole)
	part := whole[:len(l)]
	Hash("m", "v", part)
	s, e := Pack("m", "v", part)
	if !slices.Equal(whole, kept) {
		t.Fatalf("changed: %v, not %v", whole, kept)
	}
	scribble(whole)
	if e != api.OK {
		return
	}
	one, _ := Unpack("m", "v", s)
	two, _ := Unpack("m", "v", s)
	scribble(one)
	if three, _ := Unpack("m", "v", s); !slices.Equal(two, kept[:len(l)]) || !slices.Equal(three, two) {
		t.Errorf("another answer: %v, %v, not %v", two, three, kept[:len(l)])
	}
}
