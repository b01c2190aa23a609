package refs

import (
	"fmt"
	"math/rand"
	"regexp"
	"slices"
	"strings"
	"testing"

	"cartulary/api"
	"cartulary/snap"
)

const (
	idA = "4b825dc642cb6eb9a060e54bf8d69288fbee4904"
	idB = "e69de29bb2d1d6434b8b29ae775ad8c2e48c5391"
	idC = "ce013625030ba8dba906f756967f9e9ca394464a"
)

// file: of a path and bytes.
func file(path, data string) api.File {
	return api.File{Path: path, Data: data}
}

// packedFile: packed-refs with these bytes.
func packedFile(text string) api.File {
	return file("packed-refs", text)
}

// folderOf: a folder of these files.
func folderOf(t *testing.T, files ...api.File) *snap.Snap {
	t.Helper()
	s, e := snap.New(files)
	if e != api.OK {
		t.Fatalf("the files are no folder: %d", e)
	}
	return s
}

// opened: the references of these files.
func opened(t *testing.T, files ...api.File) *Refs {
	t.Helper()
	r, e := Open(folderOf(t, files...))
	if e != api.OK || r == nil {
		t.Fatalf("Open of %.300q: %d", files, e)
	}
	return r
}

// opens holds Open of packed-refs' bytes against what the document asks; it tells the references.
func opens(t *testing.T, what, text string, want api.Errno) *Refs {
	t.Helper()
	r, e := Open(folderOf(t, packedFile(text)))
	if e != want || (e == api.OK) != (r != nil) {
		t.Errorf("%s: Open of %.300q: %v, %d, not %d", what, text, r != nil, e, want)
	}
	if _, _, e := openByWords(text); e != want {
		t.Errorf("%s: by the words, %.300q: %d, not %d", what, text, e, want)
	}
	return r
}

var (
	packedLine = regexp.MustCompile(`^([0-9a-f]{40}) ((?s).*)\z`)
	peeledLine = regexp.MustCompile(`^\^([0-9a-f]{40})\z`)
)

// openByWords: packed-refs by the document's words: the Ids of the packed ones, and what their tags lead to.
func openByWords(text string) (ids, peeled map[string]string, e api.Errno) {
	ids, peeled = map[string]string{}, map[string]string{}
	last := ""
	for _, line := range strings.SplitAfter(text, "\n") {
		if line == "" {
			break
		}
		if line[len(line)-1] != '\n' {
			return nil, nil, api.ErrText
		}
		line = line[:len(line)-1]
		if line != "" && line[0] == '#' {
			continue
		}
		if m := peeledLine.FindStringSubmatch(line); m != nil {
			if last == "" || peeled[last] != "" {
				return nil, nil, api.ErrText
			}
			peeled[last] = m[1]
			continue
		}
		m := packedLine.FindStringSubmatch(line)
		if m == nil || !nameByWords(m[2]) || m[2] == "HEAD" {
			return nil, nil, api.ErrText
		}
		if ids[m[2]] != "" {
			return nil, nil, api.ErrForm
		}
		ids[m[2]] = m[1]
		if len(ids) > 2000 {
			return nil, nil, api.ErrBig
		}
		last = m[2]
	}
	return ids, peeled, api.OK
}

// P16.1: no file packed-refs, an empty one, one with remarks alone; a folder of that name is no file.
func TestOpenNothing(t *testing.T) {
	if Packed != "packed-refs" {
		t.Errorf("Packed is %q", Packed)
	}
	for _, files := range [][]api.File{nil, {packedFile("")}, {packedFile("# a\n")}, {packedFile("#\n#^\n# " + idA + " refs/a\n")}, {file("packed-refs/a", "x")}, {file("refs/packed-refs", "x")}, {file("Packed-refs", "x")}, {file("a/packed-refs", "x")}} {
		r := opened(t, files...)
		looks(t, r, "refs/a", "", api.ErrAbsent)
		looks(t, r, "HEAD", "", api.ErrAbsent)
		peels(t, r, "refs/a", "")
	}
	r, e := Open(&snap.Snap{})
	if e != api.OK {
		t.Fatalf("Open of the zero folder: %d", e)
	}
	lists(t, r, "")
}

// P16.1: lines without an end.
func TestOpenEnds(t *testing.T) {
	whole := "# all\n" + idA + " refs/a\n^" + idB + "\n#\n" + idC + " refs/b\n"
	ends := []int{0}
	for i, c := range []byte(whole) {
		if c == '\n' {
			ends = append(ends, i+1)
		}
	}
	for n := range len(whole) + 1 {
		want := api.ErrText
		if slices.Contains(ends, n) {
			want = api.OK
		}
		opens(t, "a beginning", whole[:n], want)
	}
	for _, text := range []string{"#", "# a", idA + " refs/a", idA + " refs/a\n#", idA + " refs/a\n^" + idB, idA + " refs/a\n ", idA + " refs/a\n" + idA, idA + " refs/a\x00", idA + " refs/a\r"} {
		opens(t, "no end", text, api.ErrText)
	}
	// What has no end counts as a line that is none, even if the name is packed already or one too many.
	opens(t, "twice, without an end", idA+" refs/a\n"+idA+" refs/a", api.ErrText)
	opens(t, "one too many, without an end", manyLines(2000)+idA+" refs/z", api.ErrText)
	opens(t, "one too many, with its end", manyLines(2000)+idA+" refs/z\n", api.ErrBig)
}

// P16.1: lines that are none of those.
func TestOpenLines(t *testing.T) {
	great := strings.ToUpper(idA)
	for _, line := range []string{
		"", " ", "\r", "\x00", "x", "refs/a", idA, idA + " ", " " + idA + " refs/a", idA + "  refs/a", idA + "\trefs/a", idA + "refs/a", idA + " refs/a ", idA + " refs/a\r", idA + " refs/a\x00", idA + " refs/a b", idA + " refs/a #", "refs/a " + idA,
		idA[:39] + " refs/a", idA + "0 refs/a", idA[1:] + " refs/a", great + " refs/a", "E" + idA[1:] + " refs/a", idA[:39] + "F refs/a", "g" + idA[1:] + " refs/a", " refs/a", idA[:39] + "  refs/a", "0x" + idA[2:] + " refs/a",
		idA + " HEAD", idA + " head", idA + " main", idA + " refs", idA + " refs/", idA + " refs/a..b", idA + " refs/.a", idA + " refs/a.lock", idA + " refs/a/", idA + " refs/a.", idA + " refs/a@{b", idA + " @", idA + " refs/a^", idA + " /refs/a", idA + " refs/" + strings.Repeat("a", 196), idA + " refs/é",
		" #", "\t# a", " ^" + idA, "x#", "ref: refs/a", "ref: refs/heads/main", "^", "^ " + idA, "^" + idA + " ", "^" + idA + " refs/a", "^" + idA[1:], "^" + idA + "0", "^" + great, "^E" + idA[1:], "^" + idA[:39], "^^" + idA, "^refs/a", "^" + idA[:39] + "g", "^" + idA + "\r",
	} {
		opens(t, "alone", line+"\n", api.ErrText)
		opens(t, "behind a packed one", idB+" refs/b\n"+line+"\n", api.ErrText)
		opens(t, "behind a remark", idB+" refs/b\n# a\n"+line+"\n", api.ErrText)
		opens(t, "ahead of one that is right", line+"\n"+idB+" refs/b\n", api.ErrText)
		opens(t, "ahead of one that is packed already", idB+" refs/b\n"+line+"\n"+idB+" refs/b\n", api.ErrText)
		opens(t, "behind one that is packed already", idB+" refs/b\n"+idB+" refs/b\n"+line+"\n", api.ErrForm)
	}
	for _, name := range []string{"refs/a", "refs/a,b", "refs/HEAD", "refs/@", "refs/a./b", "refs/#", "refs/" + strings.Repeat("a", 195)} {
		r := opens(t, "a name", idA+" "+name+"\n", api.OK)
		looks(t, r, name, idA, api.OK)
		lists(t, r, "", name)
	}
}

// P16.1: a ^ ahead of any packed one, once, again, behind a line with #.
func TestOpenPeeled(t *testing.T) {
	a, b, up := idA+" refs/a\n", idB+" refs/b\n", "^"+idC+"\n"
	for _, c := range []struct {
		text  string
		want  api.Errno
		peelA string
		peelB string
	}{
		{up, api.ErrText, "", ""},
		{"# a\n" + up, api.ErrText, "", ""},
		{up + a, api.ErrText, "", ""},
		{a, api.OK, "", ""},
		{a + up, api.OK, idC, ""},
		{a + up + up, api.ErrText, "", ""},
		{a + up + "^" + idA + "\n", api.ErrText, "", ""},
		{a + "# between\n" + up, api.OK, idC, ""},
		{a + "#\n#\n" + up + "#\n", api.OK, idC, ""},
		{a + "#\n" + up + "#\n" + up, api.ErrText, "", ""},
		{a + up + b, api.OK, idC, ""},
		{a + b + up, api.OK, "", idC},
		{a + up + b + up, api.OK, idC, idC},
		{a + up + b + "^" + idA + "\n", api.OK, idC, idA},
		{a + b + up + up, api.ErrText, "", ""},
		{a + up + b + up + up, api.ErrText, "", ""},
		{a + "^" + idA + "\n", api.OK, idA, ""},
	} {
		r := opens(t, "peeled", c.text, c.want)
		if r != nil {
			peels(t, r, "refs/a", c.peelA)
			peels(t, r, "refs/b", c.peelB)
		}
	}
}

// manyLines: n packed ones.
func manyLines(n int) string {
	var b strings.Builder
	for i := range n {
		fmt.Fprintf(&b, "%s refs/n/%d\n", idA, i)
	}
	return b.String()
}

// P16.1: names packed twice, MaxFiles and one more; which of them is first.
func TestOpenMany(t *testing.T) {
	opens(t, "twice", idA+" refs/a\n"+idB+" refs/a\n", api.ErrForm)
	opens(t, "twice the same", idA+" refs/a\n"+idA+" refs/a\n", api.ErrForm)
	opens(t, "twice, with others between", idA+" refs/a\n^"+idA+"\n"+manyLines(5)+"#\n"+idA+" refs/a\n", api.ErrForm)
	opens(t, "great and small letters", idA+" refs/a\n"+idA+" refs/A\n", api.OK)
	opens(t, "one is a folder of the other", idA+" refs/a\n"+idA+" refs/a/b\n", api.OK)
	opens(t, "no order", idA+" refs/b\n"+idA+" refs/c\n"+idA+" refs/a\n", api.OK)
	for _, n := range []int{1999, 2000} {
		r := opens(t, fmt.Sprint(n), manyLines(n), api.OK)
		if len(r.Names("")) != n {
			t.Errorf("%d names, not %d", len(r.Names("")), n)
		}
		looks(t, r, fmt.Sprint("refs/n/", n-1), idA, api.OK)
		opens(t, "with remarks and a ^", strings.ReplaceAll(manyLines(n), "\n", "\n# a\n^"+idB+"\n"), api.OK)
	}
	for _, n := range []int{2001, 2002, 5000} {
		opens(t, fmt.Sprint(n), manyLines(n), api.ErrBig)
	}
	full := manyLines(2000)
	opens(t, "one twice behind 2000", full+idA+" refs/n/7\n", api.ErrForm)
	opens(t, "one too many, then one twice", full+idA+" refs/z\n"+idA+" refs/n/7\n", api.ErrBig)
	opens(t, "one too many, then none", full+idA+" refs/z\nx\n", api.ErrBig)
	opens(t, "none behind 2000", full+"x\n", api.ErrText)
	opens(t, "HEAD behind 2000", full+idA+" HEAD\n", api.ErrText)
	opens(t, "a remark and a ^ behind 2000", full+"#\n^"+idB+"\n", api.OK)
	opens(t, "one twice, then too many", idA+" refs/a\n"+idA+" refs/a\n"+full+full, api.ErrForm)
}

// P16.1: packed-refs alone counts, whatever the other files are.
func TestOpenOthers(t *testing.T) {
	r := opened(t, file("HEAD", "x"), file("refs/a", ""), file("refs/.b", "x"), file("config", "x"), packedFile(idA+" refs/c\n"))
	looks(t, r, "refs/c", idA, api.OK)
	if _, e := Open(folderOf(t, file("refs/a", idA+"\n"), packedFile("x\n"))); e != api.ErrText {
		t.Errorf("Open: %d", e)
	}
}

// someLine: one of packed-refs, often right.
func someLine(random *rand.Rand) string {
	name := []string{"refs/a", "refs/b", "refs/a/b", "refs/heads/c", "refs/tags/v1", "refs/tags/v2"}[random.Intn(6)]
	if random.Intn(30) == 0 {
		name = []string{"HEAD", "refs/a..b"}[random.Intn(2)]
	}
	id := []string{idA, idB, idC}[random.Intn(3)]
	switch random.Intn(8) {
	case 0:
		return "# " + name
	case 1, 2:
		return "^" + id
	case 3:
		return []string{"#", "", "^" + id[1:], id, id + " main", strings.ToUpper(id) + " " + name, "^" + id, "^" + id}[random.Intn(8)]
	}
	return id + " " + name
}

// P16.1, P16.2: random lines, against the words.
func TestOpenRandom(t *testing.T) {
	random := rand.New(rand.NewSource(16))
	counted := map[api.Errno]int{}
	for range 20000 {
		var text string
		for range random.Intn(7) {
			text += someLine(random) + "\n"
		}
		if random.Intn(20) == 0 {
			text += "#"
		}
		ids, peeled, want := openByWords(text)
		counted[want]++
		r := opens(t, "random", text, want)
		if r == nil {
			continue
		}
		var names []string
		for name, id := range ids {
			looks(t, r, name, id, api.OK)
			peels(t, r, name, peeled[name])
			names = append(names, name)
		}
		slices.Sort(names)
		lists(t, r, "", names...)
	}
	if counted[api.OK] < 2000 || counted[api.ErrText] < 2000 || counted[api.ErrForm] < 500 {
		t.Errorf("the texts: %v", counted)
	}
}
