package zip

import (
	stdzip "archive/zip"
	"fmt"
	"io"
	"math/rand"
	"slices"
	"strings"
	"testing"

	"cartulary/api"
)

// checks holds Check and Write against an error, or against the archive by the document's words.
func checks(t *testing.T, what string, files []api.File, want api.Errno) {
	t.Helper()
	if e := Check(files); e != want {
		t.Errorf("%s: Check: %d, not %d", what, e, want)
	}
	wantS := ""
	if want == api.OK {
		var pieces []piece
		for _, f := range files {
			pieces = append(pieces, plain(f.Path, f.Data))
		}
		wantS = archive(pieces...)
	}
	if s, e := Write(files); s != wantS || e != want {
		t.Errorf("%s: Write: %.100x of %d bytes, %d, not %.100x of %d, %d", what, s, len(s), e, wantS, len(wantS), want)
	}
	if model := checkByWords(files); model != want {
		t.Errorf("%s: checkByWords: %d, not %d", what, model, want)
	}
}

// named: empty files of these paths.
func named(paths ...string) []api.File {
	var files []api.File
	for _, p := range paths {
		files = append(files, api.File{Path: p})
	}
	return files
}

// numbered: so many files, each with these bytes.
func numbered(n int, data string) []api.File {
	var files []api.File
	for i := range n {
		files = append(files, api.File{Path: fmt.Sprintf("f/%05d", i), Data: data})
	}
	return files
}

// P23.1: the document's examples, byte by byte.
func TestWriteExamples(t *testing.T) {
	for _, none := range [][]api.File{nil, {}} {
		checks(t, "no file", none, api.OK)
		if s, e := Write(none); s != "PK\x05\x06"+strings.Repeat("\x00", 18) || e != api.OK {
			t.Errorf("Write of nothing: %x, %d", s, e)
		}
	}
	// The sum of "hi" is d8932aac.
	const facts = "\x14\x00\x00\x00\x00\x00\x00\x00\x00\x00\xac\x2a\x93\xd8\x02\x00\x00\x00\x02\x00\x00\x00\x01\x00\x00\x00"
	want := "PK\x03\x04" + facts + "ahi" +
		"PK\x01\x02\x14\x00" + facts + "\x00\x00\x00\x00\x00\x00\x00\x00\x00\x00" + "\x00\x00\x00\x00" + "a" +
		"PK\x05\x06\x00\x00\x00\x00\x01\x00\x01\x00\x2f\x00\x00\x00\x21\x00\x00\x00\x00\x00"
	s, e := Write([]api.File{{Path: "a", Data: "hi"}})
	if s != want || e != api.OK || len(s) != 102 {
		t.Errorf("Write: %x, %d, not %x", s, e, want)
	}
}

// P23.1: 600 files and 601, 1048576 bytes and one more, in one file or in many.
func TestCheckBig(t *testing.T) {
	for _, n := range []int{1, 2, 255, 256, 257, 599, 600} {
		checks(t, fmt.Sprint(n, " files"), numbered(n, "x"), api.OK)
	}
	for _, n := range []int{601, 602, 2000} {
		checks(t, fmt.Sprint(n, " files"), numbered(n, ""), api.ErrBig)
	}
	most := strings.Repeat("0123456789abcdef", 65536)
	checks(t, "1048576 bytes", []api.File{{Path: "a", Data: most}}, api.OK)
	checks(t, "1048576 bytes and a path of 200", []api.File{{Path: strings.Repeat("p", 200), Data: most}}, api.OK)
	checks(t, "1048577 bytes", []api.File{{Path: "a", Data: most + "x"}}, api.ErrBig)
	checks(t, "1048576 bytes in three", []api.File{{Path: "a", Data: most[:500000]}, {Path: "b"}, {Path: "c", Data: most[500000:]}}, api.OK)
	checks(t, "1048577 bytes in three", []api.File{{Path: "a", Data: most[:500000]}, {Path: "b", Data: "x"}, {Path: "c", Data: most[500000:]}}, api.ErrBig)
	checks(t, "twice 1048576 bytes", []api.File{{Path: "a", Data: most}, {Path: "b", Data: most}}, api.ErrBig)
	// 600 * 1747 = 1048200 bytes.
	many := numbered(600, most[:1747])
	many[300].Data += most[:376]
	checks(t, "1048576 bytes in 600", many, api.OK)
	many[599].Data += "x"
	checks(t, "1048577 bytes in 600", many, api.ErrBig)
	// Ahead of paths that are none.
	checks(t, "601 files, falling", append(numbered(600, ""), api.File{Path: "a"}), api.ErrBig)
	checks(t, "601 files, no path", append(named(""), numbered(600, "")...), api.ErrBig)
	checks(t, "1048577 bytes, no path", []api.File{{Path: "..", Data: most}, {Path: "", Data: "x"}}, api.ErrBig)
	checks(t, "600 files, no path", append(named(""), numbered(599, "")...), api.ErrForm)
	checks(t, "1048576 bytes, no path", []api.File{{Path: "..", Data: most}}, api.ErrForm)
}

// P23.1: paths that are none, that aren't rising, or stand twice.
func TestCheckForm(t *testing.T) {
	for _, p := range []string{"", "/", "/a", "a/", "a//b", ".", "..", "a/.", "a/../b", "./a", "a\x00", "\x1f", "a\x7f", "é", "\xff", strings.Repeat("a", 201)} {
		checks(t, "no path", named(p), api.ErrForm)
		checks(t, "no path, last", named(" ", p), api.ErrForm)
		checks(t, "no path, first", named(p, "~~"), api.ErrForm)
	}
	for _, l := range [][]string{
		{"b", "a"}, {"a", "a"}, {"ab", "a"}, {"a", "B"}, {"a/b", "a"}, {"a/b", "a.b"}, {"a", "c", "b"}, {"b", "a", "c"}, {"a", "b", "b"}, {"a", "b", "a"}, {"a", "b", "c", "a"},
	} {
		checks(t, fmt.Sprint(l), named(l...), api.ErrForm)
	}
	for _, l := range [][]string{
		{"a"}, {strings.Repeat("a", 200)}, {"a", "b"}, {"B", "a"}, {"A", "a"}, {"a", "a.b", "a/b", "a0"}, {" ", "!", "a", "a ", "a b", "~"}, {"a", "a/b", "a/b/c"}, {"a:b", "a\\b"}, {"...", "a..", "vendor/x"},
	} {
		checks(t, fmt.Sprint(l), named(l...), api.OK)
	}
	most := numbered(600, "")
	most[598], most[599] = most[599], most[598]
	checks(t, "the last two of 600 falling", most, api.ErrForm)
	most[598] = most[599]
	checks(t, "the last two of 600 the same", most, api.ErrForm)
}

// someFiles: files that an archive may have.
func someFiles(random *rand.Rand, most int) []api.File {
	paths := map[string]int{}
	for range random.Intn(most + 1) {
		p := make([]byte, 1+random.Intn(5))
		for i := range p {
			p[i] = "abAB./ ~09"[random.Intn(10)]
		}
		if checkByWords(named(string(p))) == api.OK {
			paths[string(p)]++
		}
	}
	var files []api.File
	for p := range paths {
		files = append(files, api.File{Path: p})
	}
	slices.SortFunc(files, func(a, b api.File) int { return strings.Compare(a.Path, b.Path) })
	for i := range files {
		b := make([]byte, random.Intn(40)*random.Intn(40))
		random.Read(b)
		files[i].Data = string(b)
	}
	return files
}

// P23.1: any files, held against the document's words; another program reads the archives.
func TestWriteAny(t *testing.T) {
	random := rand.New(rand.NewSource(1))
	for range 500 {
		files := someFiles(random, 12)
		checks(t, "some files", files, api.OK)
		s, _ := Write(files)
		r, err := stdzip.NewReader(strings.NewReader(s), int64(len(s)))
		if err != nil {
			t.Fatal(err)
		}
		if len(r.File) != len(files) {
			t.Fatalf("%d files, not %d", len(r.File), len(files))
		}
		for i, f := range r.File {
			in, err := f.OpenRaw()
			if err != nil {
				t.Fatal(err)
			}
			data, err := io.ReadAll(in)
			if err != nil || f.Name != files[i].Path || string(data) != files[i].Data || f.Method != stdzip.Store {
				t.Errorf("file %d: %q, %d bytes, %v", i, f.Name, len(data), err)
			}
		}
		if len(files) < 2 {
			continue
		}
		i, j := random.Intn(len(files)), random.Intn(len(files))
		wrong := slices.Clone(files)
		wrong[i], wrong[j] = wrong[j], wrong[i]
		if i != j {
			checks(t, "two changed about", wrong, api.ErrForm)
		}
		wrong = slices.Insert(slices.Clone(files), i, files[i])
		checks(t, "one twice", wrong, api.ErrForm)
	}
}

// P23.3: Read(Write(files)) is files.
func TestReadBack(t *testing.T) {
	random := rand.New(rand.NewSource(2))
	back := func(files []api.File) {
		t.Helper()
		s, e := Write(files)
		if e != api.OK {
			t.Fatalf("Write: %d", e)
		}
		reads(t, "read back", s, api.OK, files...)
	}
	back(nil)
	for range 500 {
		back(someFiles(random, 12))
	}
	back(numbered(600, "x"))
	most := strings.Repeat("\x00PK\x05\x06\x00\xffz", 131072)
	back([]api.File{{Path: "a", Data: most}})
	back([]api.File{{Path: "a"}, {Path: strings.Repeat("b", 200), Data: most[1:]}, {Path: "c", Data: "c"}})
	// What is kept may itself be an archive, or look like its end.
	inner, _ := Write(someFiles(random, 5))
	back([]api.File{{Path: "a.zip", Data: inner}, {Path: "b", Data: inner[len(inner)-22:]}})
	// The most bytes that an archive of Write has.
	var files []api.File
	for i := range 600 {
		files = append(files, api.File{Path: fmt.Sprintf("%03d", i) + strings.Repeat("p", 197), Data: most[:1747]})
	}
	back(files)
}

// P23.4: what is handed in, and the spare room behind it, stays as it is; whoever changes it or an answer changes no other answer.
func TestMemory(t *testing.T) {
	random := rand.New(rand.NewSource(3))
	for range 200 {
		whole := someFiles(random, 12)
		if len(whole) < 3 {
			continue
		}
		if random.Intn(3) == 0 {
			slices.Reverse(whole)
		}
		kept := slices.Clone(whole)
		files := whole[:len(whole)-2]
		e := Check(files)
		s, f := Write(files)
		if !slices.Equal(whole, kept) {
			t.Fatalf("changed: %v, not %v", whole, kept)
		}
		if e != f {
			t.Errorf("Check: %d, Write: %d", e, f)
		}
		if e != api.OK {
			continue
		}
		for i := range whole {
			whole[i] = api.File{Path: "changed"}
		}
		one, _ := Read(s)
		two, _ := Read(s)
		if !slices.Equal(one, kept[:len(files)]) {
			t.Errorf("Read: %v", one)
		}
		for i := range one {
			one[i] = api.File{}
		}
		_ = append(one[:0], whole...)
		if !slices.Equal(two, kept[:len(files)]) {
			t.Errorf("another answer: %v", two)
		}
		if three, _ := Read(s); !slices.Equal(three, two) {
			t.Errorf("a later answer: %v", three)
		}
	}
}
