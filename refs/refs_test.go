package refs

import (
	"fmt"
	"math/rand"
	"regexp"
	"slices"
	"strings"
	"testing"

	"cartulary/api"
	"cartulary/snap"
)

// looks holds Lookup against what the document asks.
func looks(t *testing.T, r *Refs, name, want string, wantE api.Errno) {
	t.Helper()
	if id, e := r.Lookup(name); id != want || e != wantE {
		t.Errorf("Lookup(%q): %q, %d, not %q, %d", name, id, e, want, wantE)
	}
}

// peels holds Peeled against what the document asks.
func peels(t *testing.T, r *Refs, name, want string) {
	t.Helper()
	if id := r.Peeled(name); id != want {
		t.Errorf("Peeled(%q): %q, not %q", name, id, want)
	}
}

// lists holds Names against what the document asks.
func lists(t *testing.T, r *Refs, front string, want ...string) {
	t.Helper()
	if l := r.Names(front); !slices.Equal(l, want) {
		t.Errorf("Names(%q): %.300q, not %.300q", front, l, want)
	}
}

// P16.1, P16.2: what git packed, beside what it left in files.
func TestGit(t *testing.T) {
	const second, merge = "4b33c5379e03ca2d0135d86766169eb221d59c03", "35bbe6e930c1243f6191aea59d2445aec18c7eb0"
	const tag, tagOfTag, tagOfTree = "8cb8c3a0693d4265d0592e3012668f209412d218", "03333a3a4715e7bb7d37f0615f56ea5075110e44", "18df93853e3d7aad1a2b48747cc48de7d1edd42f"
	r := opened(t, file("HEAD", "ref: refs/heads/main\n"), packedFile("# pack-refs with: peeled fully-peeled sorted \n"+
		second+" refs/heads/a/b\n"+merge+" refs/heads/main\n"+second+" refs/tags/light\n"+
		tag+" refs/tags/v1\n^"+merge+"\n"+tagOfTag+" refs/tags/v1-tag\n^"+merge+"\n"+tagOfTree+" refs/tags/v1-tree\n^"+idA+"\n"))
	for name, want := range map[string][2]string{
		"HEAD": {merge, ""}, "refs/heads/main": {merge, ""}, "refs/heads/a/b": {second, ""}, "refs/tags/light": {second, ""},
		"refs/tags/v1": {tag, merge}, "refs/tags/v1-tag": {tagOfTag, merge}, "refs/tags/v1-tree": {tagOfTree, idA},
	} {
		looks(t, r, name, want[0], api.OK)
		peels(t, r, name, want[1])
	}
	lists(t, r, "", "refs/heads/a/b", "refs/heads/main", "refs/tags/light", "refs/tags/v1", "refs/tags/v1-tag", "refs/tags/v1-tree")
	lists(t, r, "refs/heads/", "refs/heads/a/b", "refs/heads/main")
	lists(t, r, "refs/tags/v1-", "refs/tags/v1-tag", "refs/tags/v1-tree")
}

// P16.2: no reference's name counts ahead of everything else.
func TestLookupNames(t *testing.T) {
	r := opened(t, file("main", idA+"\n"), file("refs/a.lock", idA+"\n"), file("refs/.b", idA+"\n"), file("refs/c d", idA+"\n"), file("FETCH_HEAD", idA+"\n"), file("packed-refs", ""), file("refs/ok", idA+"\n"))
	for _, name := range []string{"", "main", "FETCH_HEAD", "packed-refs", "refs", "refs/", "refs/a.lock", "refs/.b", "refs/c d", "refs/ok/", "/refs/ok", "refs//ok", "ok", "head", "@", idA, "refs/none.", "refs/a..b", "refs/ok\n", "refs/ok\x00", "refs/" + strings.Repeat("a", 196)} {
		looks(t, r, name, "", api.ErrForm)
	}
	looks(t, r, "refs/ok", idA, api.OK)
	looks(t, r, "refs/none", "", api.ErrAbsent)
	looks(t, r, "refs/ok/more", "", api.ErrAbsent)
	looks(t, r, "refs/"+strings.Repeat("a", 195), "", api.ErrAbsent)
	looks(t, r, "HEAD", "", api.ErrAbsent)
}

// P16.2, P16.3: files of other forms, without 10 and with more behind it, also beside a packed one, and where a reference leads there.
func TestLookupFiles(t *testing.T) {
	great := strings.ToUpper(idA)
	for _, data := range []string{
		"", "\n", "x\n", " ", "\x00", idA, idA + "\n\n", idA + " \n", " " + idA + "\n", idA + "\n ", idA + "\nx", idA + "\r\n", idA + "\n" + idA + "\n", idA + "\x00\n", idA + "\n\x00",
		idA[:39] + "\n", idA + "0\n", great + "\n", "E" + idA[1:] + "\n", "g" + idA[1:] + "\n", "^" + idA + "\n", idA + " refs/b\n", "#\n", "# " + idA + "\n", "\n" + idA + "\n",
		"ref: refs/b", "ref: refs/b\n\n", "ref: refs/b \n", "ref: refs/b\r\n", "ref: refs/b\nx", "ref:refs/b\n", "ref:  refs/b\n", "ref:\trefs/b\n", "ref refs/b\n", "Ref: refs/b\n", "REF: refs/b\n", " ref: refs/b\n", "refs/b\n", "ref: \n", "ref:\n", "ref\n", "ref: main\n", "ref: refs/b.lock\n", "ref: refs/a..b\n", "ref: refs/\n", "ref: /refs/b\n", "ref: refs/b/\n", "ref: " + idA + "\n", "ref: head\n", "ref: ref: refs/b\n", "ref: refs/b\x00\n", "ref: HEAD ", "ref: HEAD", "ref: refs/" + strings.Repeat("a", 196) + "\n", "ref: refs/b\nref: refs/b\n", "refs: refs/b\n",
	} {
		for _, name := range []string{"refs/a", "HEAD", "refs/heads/main"} {
			files := []api.File{file(name, data), file("refs/b", idB+"\n"), file("refs/to", "ref: "+name+"\n")}
			looks(t, opened(t, files...), name, "", api.ErrText)
			looks(t, opened(t, files...), "refs/to", "", api.ErrText)
			if name == "HEAD" {
				continue
			}
			r := opened(t, append(files, packedFile(idA+" "+name+"\n^"+idC+"\n"))...)
			looks(t, r, name, "", api.ErrText)
			looks(t, r, "refs/to", "", api.ErrText)
			peels(t, r, name, "")
			lists(t, r, name, name)
		}
	}
	for data, want := range map[string]string{idA + "\n": idA, idB + "\n": idB, strings.Repeat("0", 40) + "\n": strings.Repeat("0", 40), "ref: refs/b\n": idC, "ref: HEAD\n": idA, "ref: refs/p\n": idB} {
		r := opened(t, file("refs/a", data), file("refs/b", idC+"\n"), file("HEAD", idA+"\n"), packedFile(idB+" refs/p\n"))
		looks(t, r, "refs/a", want, api.OK)
	}
}

// P16.2: names that lead to others, in files or packed, or that aren't there.
func TestLookupLeads(t *testing.T) {
	r := opened(t, file("HEAD", "ref: refs/heads/main\n"), file("refs/none", "ref: refs/not/there\n"), file("refs/far", "ref: refs/none\n"), file("refs/head", "ref: HEAD\n"), file("refs/folder", "ref: refs/heads\n"), file("refs/heads/x", idB+"\n"), packedFile(idA+" refs/heads/main\n^"+idC+"\n"))
	looks(t, r, "HEAD", idA, api.OK)
	looks(t, r, "refs/head", idA, api.OK)
	looks(t, r, "refs/none", "", api.ErrAbsent)
	looks(t, r, "refs/far", "", api.ErrAbsent)
	looks(t, r, "refs/folder", "", api.ErrAbsent)
	looks(t, r, "refs/heads", "", api.ErrAbsent)
	// What is packed says nothing of those who lead to it.
	peels(t, r, "HEAD", "")
	peels(t, r, "refs/head", "")
	peels(t, r, "refs/heads/main", idC)
}

// chain: files each of which leads to the next one, n hops in all, and a last one with these bytes.
func chain(n int, last string) []api.File {
	var files []api.File
	for i := range n {
		files = append(files, file(fmt.Sprint("refs/c/", i), fmt.Sprintf("ref: refs/c/%d\n", i+1)))
	}
	if last != "" {
		files = append(files, file(fmt.Sprint("refs/c/", n), last))
	}
	return files
}

// P16.2: 5 hops and 6, to a file, to a packed one, to one that isn't there, to one that is wrong.
func TestLookupHops(t *testing.T) {
	for n := range 12 {
		tooFar := func(e api.Errno) api.Errno {
			if n > 5 {
				return api.ErrCycle
			}
			return e
		}
		want := idA
		if n > 5 {
			want = ""
		}
		looks(t, opened(t, chain(n, idA+"\n")...), "refs/c/0", want, tooFar(api.OK))
		looks(t, opened(t, append(chain(n, ""), packedFile(fmt.Sprintf("%s refs/c/%d\n", idA, n)))...), "refs/c/0", want, tooFar(api.OK))
		looks(t, opened(t, chain(n, "")...), "refs/c/0", "", tooFar(api.ErrAbsent))
		looks(t, opened(t, chain(n, "wrong\n")...), "refs/c/0", "", tooFar(api.ErrText))
		looks(t, opened(t, chain(n, "ref: no name\n")...), "refs/c/0", "", tooFar(api.ErrText))
		// From each of them on it is counted anew.
		r := opened(t, chain(n, idA+"\n")...)
		for from := range n + 1 {
			if n-from > 5 {
				looks(t, r, fmt.Sprint("refs/c/", from), "", api.ErrCycle)
			} else {
				looks(t, r, fmt.Sprint("refs/c/", from), idA, api.OK)
			}
		}
	}
	// The document's example: six files, HEAD the first.
	six := append(chain(4, "ref: refs/x\n"), file("HEAD", "ref: refs/c/0\n"))
	looks(t, opened(t, six...), "HEAD", "", api.ErrCycle)
	looks(t, opened(t, append(six, file("refs/x", idA+"\n"))...), "HEAD", "", api.ErrCycle)
	six[4].Data = idA + "\n"
	looks(t, opened(t, six...), "HEAD", idA, api.OK)
}

// P16.2: references that lead round to themselves; a packed one beside them doesn't help.
func TestLookupRound(t *testing.T) {
	for n := 1; n < 9; n++ {
		files := chain(n-1, "ref: refs/c/0\n")
		files = append(files, file("HEAD", "ref: refs/c/0\n"), packedFile(idA+" refs/c/0\n"))
		r := opened(t, files...)
		for i := range n {
			looks(t, r, fmt.Sprint("refs/c/", i), "", api.ErrCycle)
		}
		looks(t, r, "HEAD", "", api.ErrCycle)
	}
	looks(t, opened(t, file("HEAD", "ref: HEAD\n")), "HEAD", "", api.ErrCycle)
}

// P16.2, P16.3: Peeled of a name with a file, without one, without a ^, and of any text.
func TestPeeled(t *testing.T) {
	packed := packedFile(idA + " refs/a\n^" + idB + "\n" + idB + " refs/b\n" + idC + " refs/c\n^" + idC + "\n")
	r := opened(t, packed, file("refs/x", idA+"\n"))
	for name, want := range map[string]string{"refs/a": idB, "refs/b": "", "refs/c": idC, "refs/x": "", "refs/none": "", "HEAD": "", "": "", "main": "", "packed-refs": "", "refs/a.lock": "", "refs/A": "", "refs/a ": "", "a": "", "refs/a/": "", "\x00": ""} {
		peels(t, r, name, want)
	}
	for _, data := range []string{idA + "\n", idC + "\n", "ref: refs/c\n", "ref: refs/a\n", "wrong", ""} {
		r := opened(t, packed, file("refs/a", data))
		peels(t, r, "refs/a", "")
		peels(t, r, "refs/c", idC)
	}
	// A file behind a slash is another path.
	r = opened(t, packed, file("refs/a/b", idA+"\n"))
	peels(t, r, "refs/a", idB)
	looks(t, r, "refs/a", idA, api.OK)
}

// P16.3: a file shadows what is packed: what it names, where it leads, that it is wrong.
func TestShadow(t *testing.T) {
	packed := packedFile(idA + " refs/a\n^" + idB + "\n" + idA + " refs/b\n")
	for data, want := range map[string]api.Errno{idC + "\n": api.OK, "ref: refs/c\n": api.OK, "ref: refs/none\n": api.ErrAbsent, "ref: refs/a\n": api.ErrCycle, "wrong\n": api.ErrText, "": api.ErrText, idA: api.ErrText} {
		r := opened(t, packed, file("refs/a", data), file("refs/c", idC+"\n"), file("HEAD", "ref: refs/a\n"))
		id := map[api.Errno]string{api.OK: idC}[want]
		looks(t, r, "refs/a", id, want)
		looks(t, r, "HEAD", id, want)
		looks(t, r, "refs/b", idA, api.OK)
		peels(t, r, "refs/a", "")
		lists(t, r, "", "refs/a", "refs/b", "refs/c")
	}
}

// P16.2: paths of files that are no references' names, names in a file and packed, and any front.
func TestNames(t *testing.T) {
	r := opened(t, file("HEAD", "ref: refs/heads/main\n"), file("refs/heads/main", idA+"\n"), file("refs/heads/a.lock", idA+"\n"), file("refs/heads/.b", idA+"\n"), file("refs/heads/c d", idA+"\n"), file("refs/heads/e.", idA+"\n"), file("refs/tags/wrong", "x"), file("refs/@", "ref: refs/none\n"), file("refsx/a", idA+"\n"), file("logs/refs/heads/z", idA+"\n"), file("main", idA+"\n"),
		packedFile(idA+" refs/tags/v2\n"+idA+" refs/heads/main\n"+idA+" refs/heads/dev\n^"+idB+"\n"+idA+" refs/heads\n"+idA+" refs/stash\n"))
	all := []string{"refs/@", "refs/heads", "refs/heads/dev", "refs/heads/main", "refs/stash", "refs/tags/v2", "refs/tags/wrong"}
	for _, front := range []string{"", "r", "refs", "refs/"} {
		lists(t, r, front, all...)
	}
	lists(t, r, "refs/h", all[1:4]...)
	lists(t, r, "refs/heads", all[1:4]...)
	lists(t, r, "refs/heads/", all[2:4]...)
	lists(t, r, "refs/heads/d", all[2])
	lists(t, r, "refs/heads/main", all[3])
	lists(t, r, "refs/s", all[4])
	lists(t, r, "refs/tags/", all[5:]...)
	lists(t, r, "refs/@", all[0])
	for _, front := range []string{"HEAD", "H", "refs/heads/main/", "refs/heads/mainx", "refs/heads/a", "refs/heads/.", "refs/heads/e", "refs/heads/c", "refsx", "logs", "m", "main", "/refs", "Refs", "R", "*", ".", " ", "\x00", "refs/\x00", "refs/é", "packed-refs", idA, strings.Repeat("refs/", 100)} {
		lists(t, r, front)
	}
	lists(t, opened(t), "")
	lists(t, opened(t, file("HEAD", idA+"\n")), "")
	lists(t, opened(t, file("refs", idA+"\n")), "")
}

// P16.2: rising byte by byte, of files and packed among one another.
func TestNamesOrder(t *testing.T) {
	names := []string{"refs/a", "refs/a-b", "refs/a/b", "refs/a0", "refs/B", "refs/b", "refs/b,", "refs/_", "refs/10", "refs/9", "refs/!"}
	sorted := slices.Sorted(slices.Values(names))
	random := rand.New(rand.NewSource(2))
	for range 300 {
		random.Shuffle(len(names), func(i, k int) { names[i], names[k] = names[k], names[i] })
		files, text := []api.File{}, ""
		for _, name := range names {
			if which := random.Intn(3); which > 0 || name == "refs/a" {
				text += idA + " " + name + "\n"
				if which == 1 {
					continue
				}
			}
			if name != "refs/a" {
				files = append(files, file(name, idB+"\n"))
			}
		}
		r := opened(t, append(files, packedFile(text))...)
		for range 3 {
			lists(t, r, "", sorted...)
		}
	}
	r := opens(t, "many", manyLines(2000), api.OK)
	l := r.Names("refs/n/")
	if len(l) != 2000 || !slices.IsSorted(l) || len(slices.Compact(slices.Clone(l))) != 2000 {
		t.Errorf("%d names", len(l))
	}
	lists(t, r, "refs/n/199", "refs/n/199", "refs/n/1990", "refs/n/1991", "refs/n/1992", "refs/n/1993", "refs/n/1994", "refs/n/1995", "refs/n/1996", "refs/n/1997", "refs/n/1998", "refs/n/1999")
}

// model is a folder's references by the document's words.
type model struct {
	files, ids, peeled map[string]string
}

var fileText = regexp.MustCompile(`^(?:([0-9a-f]{40})|ref: ([^\n]*))\n\z`)

// lookup: Lookup by the words, so many others having been gone to.
func (m model) lookup(name string, gone int) (string, api.Errno) {
	if !nameByWords(name) {
		return "", api.ErrForm
	}
	data, there := m.files[name]
	if !there && m.ids[name] != "" {
		return m.ids[name], api.OK
	}
	if !there {
		return "", api.ErrAbsent
	}
	x := fileText.FindStringSubmatch(data)
	if x == nil || x[1] == "" && !nameByWords(x[2]) {
		return "", api.ErrText
	}
	if x[1] != "" {
		return x[1], api.OK
	}
	if gone == 5 {
		return "", api.ErrCycle
	}
	return m.lookup(x[2], gone+1)
}

// names: Names by the words.
func (m model) names(front string) []string {
	var l []string
	for _, some := range []map[string]string{m.files, m.ids} {
		for name := range some {
			if strings.HasPrefix(name, "refs/") && nameByWords(name) && strings.HasPrefix(name, front) && !slices.Contains(l, name) {
				l = append(l, name)
			}
		}
	}
	slices.Sort(l)
	return l
}

// peel: Peeled by the words.
func (m model) peel(name string) string {
	if _, there := m.files[name]; there {
		return ""
	}
	return m.peeled[name]
}

// P16.2, P16.3: random folders, against the words.
func TestRandom(t *testing.T) {
	random := rand.New(rand.NewSource(3))
	pool := []string{"HEAD", "refs/a", "refs/b", "refs/c", "refs/d", "refs/e/f", "refs/e/g", "refs/h", "refs/i.lock", "refs/j"}
	counted := map[api.Errno]int{}
	for range 8000 {
		text := ""
		for _, k := range random.Perm(len(pool))[:random.Intn(5)] {
			if nameByWords(pool[k]) && k > 0 {
				text += []string{idA, idB, idC}[random.Intn(3)] + " " + pool[k] + "\n"
				text += []string{"", "# x\n", "^" + idC + "\n"}[random.Intn(3)]
			}
		}
		m := model{files: map[string]string{"packed-refs": text}}
		m.ids, m.peeled, _ = openByWords(text)
		for _, name := range pool {
			to := pool[random.Intn(len(pool))]
			switch random.Intn(12) {
			case 0, 1:
				m.files[name] = []string{idA, idB, idC}[random.Intn(3)] + "\n"
			case 2:
				m.files[name] = []string{"", "x\n", idA, "ref: " + to}[random.Intn(4)]
			case 3, 4, 5, 6, 7, 8:
				m.files[name] = "ref: " + to + "\n"
			}
		}
		var files []api.File
		for path, data := range m.files {
			files = append(files, file(path, data))
		}
		r := opened(t, files...)
		for _, name := range append(pool, "refs/none", "main", "refs/e") {
			id, e := m.lookup(name, 0)
			counted[e]++
			looks(t, r, name, id, e)
			peels(t, r, name, m.peel(name))
			lists(t, r, name, m.names(name)...)
		}
		lists(t, r, "", m.names("")...)
	}
	for _, e := range []api.Errno{api.OK, api.ErrForm, api.ErrText, api.ErrAbsent, api.ErrCycle} {
		if counted[e] < 2000 {
			t.Errorf("only %d times %d", counted[e], e)
		}
	}
}

// P16.4: answers are new memory: changed ones, and what is put behind them, are seen in no later or other answer.
func TestAnswersAreNew(t *testing.T) {
	r := opened(t, file("refs/a", idA+"\n"), file("refs/b", idB+"\n"), packedFile(idA+" refs/c\n^"+idB+"\n"+idC+" refs/d\n"))
	want := []string{"refs/a", "refs/b", "refs/c", "refs/d"}
	first, second := r.Names(""), r.Names("")
	_ = append(first[:len(first):cap(first)], "behind")
	for i := range first {
		first[i] = "spoilt"
	}
	if !slices.Equal(second, want) {
		t.Errorf("two answers share memory: %q", second)
	}
	lists(t, r, "", want...)
	for name, id := range map[string]string{"refs/a": idA, "refs/b": idB, "refs/c": idA, "refs/d": idC} {
		looks(t, r, name, id, api.OK)
	}
	peels(t, r, "refs/c", idB)
}

// P16.4: what is handed in isn't changed or kept: the references stand still, whatever comes to be of the folder.
func TestHandedIn(t *testing.T) {
	files := []api.File{file("HEAD", "ref: refs/c\n"), file("refs/a", idA+"\n"), packedFile(idA + " refs/c\n^" + idB + "\n")}
	s := folderOf(t, files...)
	r, e := Open(s)
	if e != api.OK {
		t.Fatalf("Open: %d", e)
	}
	for range 2 {
		looks(t, r, "HEAD", idA, api.OK)
		looks(t, r, "refs/a", idA, api.OK)
		peels(t, r, "refs/c", idB)
		lists(t, r, "", "refs/a", "refs/c")
		if data, e := s.Get("refs/a"); s.Len() == 3 && (data != idA+"\n" || e != api.OK) {
			t.Errorf("the folder has changed: %q, %d", data, e)
		}
		*s = snap.Snap{}
		for i := range files {
			files[i] = file("x", "y")
		}
	}
	// Two of one folder have nothing to do with each other.
	s = folderOf(t, file("refs/a", idA+"\n"), packedFile(idA+" refs/c\n"))
	one, _ := Open(s)
	two, _ := Open(s)
	one.Names("")[0] = "spoilt"
	lists(t, two, "", "refs/a", "refs/c")
}
