package snap

import (
	"math/rand"
	"slices"
	"strconv"
	"strings"
	"testing"

	"cartulary/api"
)

// bare: files with these paths; what a file says is told by its path.
func bare(paths ...string) []api.File {
	var files []api.File
	for _, p := range paths {
		files = append(files, api.File{Path: p, Data: "in " + p})
	}
	return files
}

// made: the folder of these files, which are in form.
func made(t *testing.T, files []api.File) *Snap {
	t.Helper()
	s, e := New(files)
	if e != api.OK || s == nil {
		t.Fatalf("New of %d files: %d", len(files), e)
	}
	return s
}

// refused: New answers an error, and nothing beside it.
func refused(t *testing.T, what string, files []api.File, want api.Errno) {
	t.Helper()
	if s, e := New(files); s != nil || e != want {
		t.Errorf("%s: a folder: %v, %d, not %d", what, s != nil, e, want)
	}
}

// gets holds Get against what the document asks.
func gets(t *testing.T, s *Snap, path, data string, want api.Errno) {
	t.Helper()
	if got, e := s.Get(path); got != data || e != want {
		t.Errorf("Get(%q): %.40q, %d, not %.40q, %d", path, got, e, data, want)
	}
}

// lists holds List against what the document asks.
func lists(t *testing.T, s *Snap, folder string, want []string, wantE api.Errno) {
	t.Helper()
	if got, e := s.List(folder); !slices.Equal(got, want) || e != wantE {
		t.Errorf("List(%q): %q, %d, not %q, %d", folder, got, e, want, wantE)
	}
}

// unders holds Under against what the document asks.
func unders(t *testing.T, s *Snap, front string, want ...string) {
	t.Helper()
	if got := s.Under(front); !slices.Equal(got, want) {
		t.Errorf("Under(%q): %q, not %q", front, got, want)
	}
}

// many: n files, all empty.
func many(n int) []api.File {
	var files []api.File
	for i := range n {
		files = append(files, api.File{Path: "f/" + strconv.Itoa(i)})
	}
	return files
}

// P7.1, P7.2: the examples of the document.
func TestExamples(t *testing.T) {
	s := made(t, bare("a/b", "a/c/d", "e"))
	lists(t, s, "", []string{"a/", "e"}, api.OK)
	lists(t, s, "a", []string{"b", "c/"}, api.OK)
	lists(t, s, "e", nil, api.ErrAbsent)
	lists(t, s, "a/", nil, api.ErrForm)
	unders(t, s, "a", "a/b", "a/c/d")
	refused(t, "a and a/b", bare("a", "a/b"), api.ErrForm)
}

// P7.1: 2000 files and 2001.
func TestMostFiles(t *testing.T) {
	s := made(t, many(2000))
	if s.Len() != 2000 || s.Size() != 0 {
		t.Errorf("%d files of %d bytes", s.Len(), s.Size())
	}
	refused(t, "2001 files", many(2001), api.ErrBig)
	refused(t, "3000 files", many(3000), api.ErrBig)
	last := append(many(1999), api.File{Path: "f/0"})
	refused(t, "2000 files, two with one path", last, api.ErrForm)
	refused(t, "2001 files, two with one path", append(last, api.File{Path: "z"}), api.ErrBig)
	refused(t, "2001 files, one no path", append(many(2000), api.File{Path: "/"}), api.ErrBig)
	refused(t, "2001 files, one as a folder", append(many(2000), api.File{Path: "f"}), api.ErrBig)
}

// P7.1: just as many bytes of Data as are allowed, and one more; the bytes of the paths don't count.
func TestMostBytes(t *testing.T) {
	full := strings.Repeat("x", api.MaxSnap)
	s := made(t, []api.File{{Path: "a", Data: full}})
	if s.Len() != 1 || s.Size() != 4194304 {
		t.Errorf("%d files of %d bytes", s.Len(), s.Size())
	}
	gets(t, s, "a", full, api.OK)
	refused(t, "one byte more", []api.File{{Path: "a", Data: full + "x"}}, api.ErrBig)
	refused(t, "one byte more behind", []api.File{{Path: "a", Data: full}, {Path: "b", Data: "x"}}, api.ErrBig)
	refused(t, "one byte more ahead", []api.File{{Path: "a", Data: "x"}, {Path: "b", Data: full}}, api.ErrBig)
	refused(t, "one byte more, no path", []api.File{{Path: "", Data: full}, {Path: "b", Data: "x"}}, api.ErrBig)
	refused(t, "one byte more, one path", []api.File{{Path: "b", Data: full}, {Path: "b", Data: "x"}}, api.ErrBig)
	refused(t, "full, no path", []api.File{{Path: "a//b", Data: full}}, api.ErrForm)
	s = made(t, []api.File{{Path: "a", Data: full[1:]}, {Path: "c"}, {Path: "b", Data: "x"}})
	if s.Len() != 3 || s.Size() != api.MaxSnap {
		t.Errorf("%d files of %d bytes", s.Len(), s.Size())
	}
	spread := many(2000)
	for i := range spread {
		spread[i].Data = full[:2097]
	}
	if s := made(t, spread); s.Size() != 4194000 {
		t.Errorf("%d bytes", s.Size())
	}
	spread[7].Data = full[:2097+304]
	if s := made(t, spread); s.Size() != api.MaxSnap {
		t.Errorf("%d bytes", s.Size())
	}
	spread[9].Data += "x"
	refused(t, "2000 files, one byte more", spread, api.ErrBig)
}

// P7.1: each path is held against the words on a path, wherever it stands.
func TestNoPath(t *testing.T) {
	for _, bad := range []string{"", "/", "/a", "a/", "a//b", ".", "..", "a/.", "a/../b", "a\x1f", "a\x7f", strings.Repeat("a", 201)} {
		refused(t, bad+" alone", bare(bad), api.ErrForm)
		refused(t, bad+" ahead", bare(bad, "x", "y"), api.ErrForm)
		refused(t, bad+" between", bare("x", bad, "y"), api.ErrForm)
		refused(t, bad+" behind", bare("x", "y", bad), api.ErrForm)
	}
	long := strings.Repeat("a", 200)
	s := made(t, bare(long, "b"))
	gets(t, s, long, "in "+long, api.OK)
}

// P7.1: a path that stands twice, with the same Data and with another.
func TestTwice(t *testing.T) {
	refused(t, "side by side", bare("a", "a"), api.ErrForm)
	refused(t, "far off", bare("m", "b", "z/y", "a", "m"), api.ErrForm)
	refused(t, "the greatest", bare("z", "b", "a", "z"), api.ErrForm)
	refused(t, "with other Data", []api.File{{Path: "a", Data: "1"}, {Path: "b"}, {Path: "a", Data: "2"}}, api.ErrForm)
	made(t, []api.File{{Path: "a", Data: "1"}, {Path: "b", Data: "1"}, {Path: "A", Data: "1"}})
}

// P7.1: a path that with a slash behind it is the beginning of another one, whatever stands between the two.
func TestFileAsFolder(t *testing.T) {
	for _, paths := range [][]string{
		{"a", "a/b"},
		{"a", "a/b/c/d"},
		{"a/b", "a/b/c"},
		{"a", "a.b", "a/b"},
		{"a", "a!", "a ", "a-", "a.", "a.b/c", "a/b", "a0"},
		{"x/y", "x/y z", "x/y-/a", "x/y/z", "x/y0"},
		{"0", "a/b/c", "a/b", "z"},
	} {
		refused(t, strings.Join(paths, ", "), bare(paths...), api.ErrForm)
		slices.Reverse(paths)
		refused(t, strings.Join(paths, ", "), bare(paths...), api.ErrForm)
	}
	for _, paths := range [][]string{
		{"a", "ab", "a.b/c", "a b", "a-/b"},
		{"a/b", "a/bc", "a/b.c/d", "ab/c"},
		{"b", "a/b", "a/c/b"},
		{"a/a/a", "a/b", "b/a"},
	} {
		made(t, bare(paths...))
	}
}

// P7.1, P7.2: no files: the zero Snap, a nil list, an empty one.
func TestNoFiles(t *testing.T) {
	for _, s := range []*Snap{new(Snap), made(t, nil), made(t, []api.File{})} {
		if s.Len() != 0 || s.Size() != 0 {
			t.Errorf("%d files of %d bytes", s.Len(), s.Size())
		}
		gets(t, s, "", "", api.ErrAbsent)
		gets(t, s, "a", "", api.ErrAbsent)
		unders(t, s, "")
		unders(t, s, "a")
		lists(t, s, "", nil, api.OK)
		lists(t, s, "a", nil, api.ErrAbsent)
		lists(t, s, "/", nil, api.ErrForm)
	}
}

// P7.2: what is no file's path: folders, beginnings, what is longer, what is no path.
func TestGetAbsent(t *testing.T) {
	s := made(t, []api.File{{Path: "a/b", Data: "1"}, {Path: "c"}, {Path: "d.e", Data: "\x00\xff"}})
	gets(t, s, "a/b", "1", api.OK)
	gets(t, s, "c", "", api.OK)
	gets(t, s, "d.e", "\x00\xff", api.OK)
	for _, path := range []string{"", "a", "a/", "a/b/", "/a/b", "a//b", "a/./b", "a/b\x00", "A/B", "b", "c/", "c ", "d", "d.", "d.ee", "\xff", strings.Repeat("a", 300)} {
		gets(t, s, path, "", api.ErrAbsent)
	}
}

// P7.2: a beginning is any text: a piece of a part, a whole path, none at all, what is no path.
func TestUnder(t *testing.T) {
	s := made(t, bare("b/c", "a/b", "a.b", "a/c/d", "ab", "a/c/e", "z~"))
	unders(t, s, "", "a.b", "a/b", "a/c/d", "a/c/e", "ab", "b/c", "z~")
	unders(t, s, "a", "a.b", "a/b", "a/c/d", "a/c/e", "ab")
	unders(t, s, "a/", "a/b", "a/c/d", "a/c/e")
	unders(t, s, "a/c", "a/c/d", "a/c/e")
	unders(t, s, "a/c/", "a/c/d", "a/c/e")
	unders(t, s, "a/c/e", "a/c/e")
	unders(t, s, "a/c/e/")
	unders(t, s, "z", "z~")
	unders(t, s, "z~", "z~")
	for _, front := range []string{"/", "//", ".", "A", "a/c/f", "a//", "a\x00", "a\xff", "\xff", "c", "zz", strings.Repeat("a", 300)} {
		unders(t, s, front)
	}
}

// P7.2: folders in folders; a file's name that begins with a folder's; the order is that of the paths.
func TestList(t *testing.T) {
	s := made(t, bare("a0", "a/x/1", "a/x/2", "a/x.y", "a.b", "a-/q", "a/x-/1", "a/x0/1", "b/c/d/e/f"))
	lists(t, s, "", []string{"a-/", "a.b", "a/", "a0", "b/"}, api.OK)
	lists(t, s, "a", []string{"x-/", "x.y", "x/", "x0/"}, api.OK)
	lists(t, s, "a/x", []string{"1", "2"}, api.OK)
	lists(t, s, "b", []string{"c/"}, api.OK)
	lists(t, s, "b/c/d", []string{"e/"}, api.OK)
	lists(t, s, "b/c/d/e", []string{"f"}, api.OK)
	for _, folder := range []string{"b/c/d/e/f", "a/x/1", "a0", "a.b", "b/c/d/e/f/g", "a/y", "c", "a-/q", "A", "b/c/", "a/x./"} {
		want := api.ErrAbsent
		if strings.HasSuffix(folder, "/") {
			want = api.ErrForm
		}
		lists(t, s, folder, nil, want)
	}
	lists(t, s, strings.Repeat("a", 200), nil, api.ErrAbsent)
	for _, folder := range []string{"/", "/a", "a/", "a//x", ".", "..", "a/.", "a/../a", "a\x00", "a\x7f", strings.Repeat("a", 201)} {
		lists(t, s, folder, nil, api.ErrForm)
	}
}

// P7.2: a folder with 2000 files, and 2000 folders with one.
func TestListMany(t *testing.T) {
	s := made(t, many(2000))
	lists(t, s, "", []string{"f/"}, api.OK)
	if l, e := s.List("f"); len(l) != 2000 || !slices.IsSorted(l) || e != api.OK {
		t.Errorf("%d items, %d", len(l), e)
	}
	var files []api.File
	for i := range 2000 {
		files = append(files, api.File{Path: strconv.Itoa(i) + "/f"})
	}
	s = made(t, files)
	if l, e := s.List(""); len(l) != 2000 || e != api.OK {
		t.Errorf("%d items, %d", len(l), e)
	}
	lists(t, s, "1999", []string{"f"}, api.OK)
}

// slow is a folder by the document's words: each call goes through all files.
type slow []api.File

func (s slow) wrong() bool {
	for i, f := range s {
		if !pathByWords(f.Path) {
			return true
		}
		for k, g := range s {
			if i != k && (f.Path == g.Path || strings.HasPrefix(g.Path, f.Path+"/")) {
				return true
			}
		}
	}
	return false
}

func (s slow) get(path string) (string, api.Errno) {
	for _, f := range s {
		if f.Path == path {
			return f.Data, api.OK
		}
	}
	return "", api.ErrAbsent
}

func (s slow) under(front string) []string {
	var paths []string
	for _, f := range s {
		if strings.HasPrefix(f.Path, front) {
			paths = append(paths, f.Path)
		}
	}
	slices.Sort(paths)
	return paths
}

func (s slow) list(folder string) ([]string, api.Errno) {
	front := ""
	if folder != "" {
		if !pathByWords(folder) {
			return nil, api.ErrForm
		}
		front = folder + "/"
	}
	var items []string
	for _, path := range s.under(front) {
		parts := strings.SplitAfterN(path[len(front):], "/", 2)
		if !slices.Contains(items, parts[0]) {
			items = append(items, parts[0])
		}
	}
	if folder != "" && items == nil {
		return nil, api.ErrAbsent
	}
	return items, api.OK
}

// someText: a few bytes, such as paths are made of.
func someText(random *rand.Rand, most int) string {
	b := make([]byte, random.Intn(most+1))
	for i := range b {
		b[i] = "aab.-/0"[random.Intn(7)]
	}
	return string(b)
}

// somePaths: up to n short paths; now and then a text that is none, or a path twice.
func somePaths(random *rand.Rand, n int) []string {
	var paths []string
	for range random.Intn(n + 1) {
		p := someText(random, 6)
		if random.Intn(90) > 0 && (!pathByWords(p) || slices.Contains(paths, p)) {
			continue
		}
		paths = append(paths, p)
	}
	return paths
}

// P7.1, P7.2: all calls against the slow folder.
func TestAgainstWords(t *testing.T) {
	random := rand.New(rand.NewSource(7))
	good, bad := 0, 0
	for range 6000 {
		files := bare(somePaths(random, 24)...)
		model := slow(files)
		if model.wrong() {
			bad++
			refused(t, "files that aren't in form", files, api.ErrForm)
			continue
		}
		good++
		s := made(t, files)
		bytes := 0
		for _, f := range files {
			bytes += len(f.Data)
		}
		if s.Len() != len(files) || s.Size() != bytes {
			t.Errorf("%d files of %d bytes, not %d of %d", s.Len(), s.Size(), len(files), bytes)
		}
		asked := []string{"", "a", "b", "0", "a/a", "-"}
		for _, f := range files {
			asked = append(asked, f.Path, f.Path[:random.Intn(len(f.Path)+1)], someText(random, 4))
		}
		for _, text := range asked {
			data, e := model.get(text)
			gets(t, s, text, data, e)
			unders(t, s, text, model.under(text)...)
			list, e := model.list(text)
			lists(t, s, text, list, e)
		}
	}
	if good < 1000 || bad < 1000 {
		t.Errorf("%d folders, %d that are none", good, bad)
	}
}

// answers: all that a folder says of itself.
func answers(s *Snap) []string {
	told := []string{strconv.Itoa(s.Len()), strconv.Itoa(s.Size())}
	for _, path := range s.Under("") {
		data, _ := s.Get(path)
		told = append(told, path, data)
	}
	for _, folder := range []string{"", "a", "a/c", "b"} {
		list, e := s.List(folder)
		told = append(append(told, strconv.Itoa(int(e))), list...)
	}
	return told
}

// P7.3: files in any order are the same folder.
func TestAnyOrder(t *testing.T) {
	files := bare("a.b", "a/b", "a/c/d", "a/c/e", "b/f", "c")
	want := answers(made(t, files))
	random := rand.New(rand.NewSource(11))
	for range 200 {
		random.Shuffle(len(files), func(i, k int) { files[i], files[k] = files[k], files[i] })
		if got := answers(made(t, files)); !slices.Equal(got, want) {
			t.Fatalf("%q: %q, not %q", files, got, want)
		}
	}
}

// P7.3: what is handed in isn't changed, nor the room behind it, be it in form or not.
func TestHandedIn(t *testing.T) {
	for _, paths := range [][]string{{"c", "a/b", "b", "a.b"}, {"c", "a/b", "a"}, {"c", "a", "c"}, {"c", "", "a"}} {
		room := bare(append(paths, "behind", "0")...)
		kept := slices.Clone(room)
		New(room[:len(paths)])
		if !slices.Equal(room, kept) {
			t.Errorf("%q has become %q", kept, room)
		}
	}
}

// P7.3: what is handed in isn't kept.
func TestChangedAfterwards(t *testing.T) {
	files := bare("a/b", "a/c/d", "b/e", "c")
	s := made(t, files)
	want := answers(s)
	for i := range files {
		files[i] = api.File{Path: "a/z" + strconv.Itoa(9-i), Data: "another"}
	}
	files = append(files[:1], api.File{Path: "x"})
	if got := answers(s); !slices.Equal(got, want) {
		t.Errorf("%q has become %q", want, got)
	}
}

// P7.3: answers are new memory: changed ones, and what is put behind them, are seen in no later or other answer.
func TestAnswersAreNew(t *testing.T) {
	s := made(t, bare("a/b", "a/c/d", "a/c/e", "b/f", "c"))
	want := answers(s)
	spoil := func(list []string) {
		_ = append(list, "behind")
		for i := range list {
			list[i] = "spoilt"
		}
	}
	first, second := s.Under("a"), s.Under("a")
	spoil(first)
	if !slices.Equal(second, []string{"a/b", "a/c/d", "a/c/e"}) {
		t.Errorf("two answers share memory: %q", second)
	}
	for _, front := range []string{"", "a", "a/c", "b"} {
		spoil(s.Under(front))
		list, _ := s.List(front)
		other, _ := s.List(front)
		kept := slices.Clone(other)
		spoil(list)
		if !slices.Equal(other, kept) {
			t.Errorf("two lists share memory: %q", other)
		}
	}
	if got := answers(s); !slices.Equal(got, want) {
		t.Errorf("%q has become %q", want, got)
	}
}

// P7.3: two folders of the same files are two.
func TestTwoFolders(t *testing.T) {
	files := bare("a", "b")
	one, two := made(t, files), made(t, files[:1])
	three := made(t, append(files[:1:1], api.File{Path: "c", Data: "3"}))
	unders(t, one, "", "a", "b")
	unders(t, two, "", "a")
	unders(t, three, "", "a", "c")
	gets(t, three, "c", "3", api.OK)
	gets(t, one, "c", "", api.ErrAbsent)
}
