package history

import (
	"bytes"
	stdzlib "compress/zlib"
	"crypto/sha1"
	"encoding/hex"
	"fmt"
	"reflect"
	"slices"
	"strconv"
	"strings"
	"testing"

	"cartulary/api"
	"cartulary/odb"
	"cartulary/snap"
)

const (
	absent = "00000000000000000000000000000000000000aa"
	signed = "ann <ann@example.com> 1700000000 +0130"
)

// noNames are texts that are no object's name.
var noNames = []string{"", "x", "HEAD", "refs/heads/main", absent[:39], absent + "0", strings.ToUpper(absent), absent[:39] + "g", absent[:39] + " ", absent[:39] + "\x00", absent + "\n", "\xff", strings.Repeat("/", 40), strings.Repeat("0", 1<<20)}

var kindNames = map[int]string{1: "commit", 2: "tree", 3: "blob", 4: "tag"}

// framer is made once: it is slow to make.
var framer = stdzlib.NewWriter(nil)

// framed: a frame of the library's making.
func framed(text string) string {
	var b bytes.Buffer
	framer.Reset(&b)
	framer.Write([]byte(text))
	framer.Close()
	return b.String()
}

// repo is a repository that is being made, each object in a file of its own.
type repo struct {
	files map[string]string
	// folders and parents are what was put, for models of the document's words.
	folders map[string][]api.Entry
	parents map[string][]string
}

func newRepo() *repo {
	return &repo{files: map[string]string{}, folders: map[string][]api.Entry{}, parents: map[string][]string{}}
}

// file puts bytes where the object of a name stands.
func (r *repo) file(id, data string) {
	r.files["objects/"+id[:2]+"/"+id[2:]] = data
}

// put: the name of an object that is there from now on.
func (r *repo) put(kind int, data string) string {
	text := kindNames[kind] + " " + strconv.Itoa(len(data)) + "\x00" + data
	sum := sha1.Sum([]byte(text))
	id := hex.EncodeToString(sum[:])
	r.file(id, framed(text))
	return id
}

// folder puts a tree of entries, which have to be in their order.
func (r *repo) folder(entries ...api.Entry) string {
	var b strings.Builder
	for _, x := range entries {
		id, err := hex.DecodeString(x.Id)
		if err != nil {
			panic(err)
		}
		fmt.Fprintf(&b, "%o %s\x00%s", x.Mode, x.Name, id)
	}
	id := r.put(api.Tree, b.String())
	r.folders[id] = entries
	return id
}

// commitText: a commit's bytes.
func commitText(tree, message string, parents ...string) string {
	s := "tree " + tree + "\n"
	for _, p := range parents {
		s += "parent " + p + "\n"
	}
	return s + "author " + signed + "\ncommitter " + signed + "\n\n" + message
}

// commit puts one; its tree isn't there.
func (r *repo) commit(message string, parents ...string) string {
	id := r.put(api.Commit, commitText(absent, message, parents...))
	r.parents[id] = parents
	return id
}

// tag puts a tag that says its object is of a kind.
func (r *repo) tag(id, kind string) string {
	return r.put(api.Tag, "object "+id+"\ntype "+kind+"\ntag v1\ntagger "+signed+"\n\nof "+id)
}

// open: all objects that were put.
func (r *repo) open(t *testing.T) *odb.Odb {
	t.Helper()
	var files []api.File
	for path, data := range r.files {
		files = append(files, api.File{Path: path, Data: data})
	}
	return opened(t, files...)
}

// opened: the objects of these files.
func opened(t *testing.T, files ...api.File) *odb.Odb {
	t.Helper()
	s, e := snap.New(files)
	if e != api.OK {
		t.Fatalf("New: %d", e)
	}
	d, e := odb.Open(s)
	if e != api.OK {
		t.Fatalf("Open: %d", e)
	}
	return d
}

// plain, runs, link, module and in are entries of each mode.
func plain(name, id string) api.Entry  { return api.Entry{Mode: 0o100644, Name: name, Id: id} }
func runs(name, id string) api.Entry   { return api.Entry{Mode: 0o100755, Name: name, Id: id} }
func link(name, id string) api.Entry   { return api.Entry{Mode: 0o120000, Name: name, Id: id} }
func module(name, id string) api.Entry { return api.Entry{Mode: 0o160000, Name: name, Id: id} }
func in(name, id string) api.Entry     { return api.Entry{Mode: 0o40000, Name: name, Id: id} }

// changes holds Commit against what the document asks.
func changes(t *testing.T, what string, d *odb.Odb, id string, want api.Change, wantE api.Errno) {
	t.Helper()
	if c, e := Commit(d, id); e != wantE || !reflect.DeepEqual(c, want) {
		t.Errorf("%s: Commit(%.50q): %.200v, %d, not %.200v, %d", what, id, c, e, want, wantE)
	}
}

// lists holds Folder against what the document asks.
func lists(t *testing.T, what string, d *odb.Odb, id string, wantE api.Errno, want ...api.Entry) {
	t.Helper()
	if l, e := Folder(d, id); e != wantE || !slices.Equal(l, want) || e != api.OK && l != nil {
		t.Errorf("%s: Folder(%.50q): %.200v, %d, not %.200v, %d", what, id, l, e, want, wantE)
	}
}

// peels holds Peel against what the document asks.
func peels(t *testing.T, what string, d *odb.Odb, id, want string, wantE api.Errno) {
	t.Helper()
	if got, e := Peel(d, id); got != want || e != wantE {
		t.Errorf("%s: Peel(%.50q): %q, %d, not %q, %d", what, id, got, e, want, wantE)
	}
}

// P17.1, P17.2, P17.3: names that are none, and that aren't there.
func TestNoNames(t *testing.T) {
	r := newRepo()
	blob := r.put(api.Blob, "hi")
	c := r.commit("c")
	root := r.folder(plain("a", blob))
	d := r.open(t)
	wants := map[string]api.Errno{absent: api.ErrAbsent}
	for _, id := range append(noNames, c[:7], c[:39], c+"0", strings.ToUpper(c), root[:39], " "+root) {
		wants[id] = api.ErrForm
	}
	for id, want := range wants {
		changes(t, "no such name", d, id, api.Change{}, want)
		lists(t, "no such name", d, id, want)
		peels(t, "no such name", d, id, "", want)
		ancestors(t, "no such name", d, id, 9, want)
		leafs(t, "no such name", d, id, 9, want)
		at(t, "no such name", d, id, "a", api.Entry{}, want)
		at(t, "no such name", d, id, "", api.Entry{Mode: 0o40000, Id: id}, api.OK)
		before(t, "no such name", d, c, id, 9, false, want)
		before(t, "no such name", d, id, id, 9, false, want)
		before(t, "an old one that is none", d, id, c, 9, false, api.OK)
	}
}

// P17.1: a commit with all that it may have.
func TestCommit(t *testing.T) {
	r := newRepo()
	one, two := r.commit("one"), r.commit("two")
	root := r.folder()
	id := r.put(api.Commit, "tree "+root+"\nparent "+two+"\nparent "+one+"\nparent "+two+"\nparent "+absent+"\nauthor a b <c> 0 -1400\ncommitter d 253402300799 +0130\n\nfirst\n\nsecond\x00\xff")
	d := r.open(t)
	changes(t, "all", d, id, api.Change{
		Tree: root, Parents: []string{two, one, two, absent},
		Author: api.Sign{Who: "a b <c>", Zone: -840}, Committer: api.Sign{Who: "d", Time: 253402300799, Zone: 90},
		Message: "first\n\nsecond\x00\xff",
	}, api.OK)
	ann := api.Sign{Who: "ann <ann@example.com>", Time: 1700000000, Zone: 90}
	changes(t, "no parents", d, one, api.Change{Tree: absent, Author: ann, Committer: ann, Message: "one"}, api.OK)
}

// P17.1: objects of other kinds, files that are wrong, bytes that are no commit, in the order in which they count.
func TestCommitWrong(t *testing.T) {
	r := newRepo()
	right := commitText(absent, "right")
	many := make([]string, 17)
	for i := range many {
		many[i] = absent
	}
	wants := map[string]api.Errno{
		r.put(api.Tree, right):                                         api.ErrKind,
		r.put(api.Blob, right):                                         api.ErrKind,
		r.put(api.Tag, right):                                          api.ErrKind,
		r.put(api.Tag, ""):                                             api.ErrKind,
		r.put(api.Blob, "no commit"):                                   api.ErrKind,
		r.put(api.Commit, ""):                                          api.ErrText,
		r.put(api.Commit, "no commit"):                                 api.ErrText,
		r.put(api.Commit, right[1:]):                                   api.ErrText,
		r.put(api.Commit, strings.Replace(right, "\n\n", "\n", 1)):     api.ErrText,
		r.put(api.Commit, strings.Replace(right, "+0130", "+0160", 1)): api.ErrText,
		r.put(api.Commit, commitText("none", "")):                      api.ErrForm,
		r.put(api.Commit, commitText(absent, "", "none")):              api.ErrForm,
		r.put(api.Commit, commitText("none", "", many...)):             api.ErrBig,
		r.put(api.Commit, strings.Replace(commitText("none", "", many...), "committer ", "committed", 1)): api.ErrText,
	}
	full := commitText(absent, "16 parents", many[:16]...)
	ann := api.Sign{Who: "ann <ann@example.com>", Time: 1700000000, Zone: 90}
	most := r.put(api.Commit, full)
	swapped, broken, longer := r.put(api.Commit, right+"1"), r.put(api.Commit, right+"2"), r.put(api.Commit, right+"3")
	r.file(swapped, framed("blob 9\x00no commit"))
	r.file(broken, "no frame")
	r.file(longer, framed("commit 3\x00abcd"))
	wants[swapped], wants[broken], wants[longer] = api.ErrSum, api.ErrText, api.ErrText
	d := r.open(t)
	for id, want := range wants {
		changes(t, "wrong", d, id, api.Change{}, want)
		ancestors(t, "wrong", d, id, 9, want)
	}
	changes(t, "16 parents", d, most, api.Change{Tree: absent, Parents: many[:16], Author: ann, Committer: ann, Message: "16 parents"}, api.OK)
}

// P17.1: a tree with entries of each mode, and one without any.
func TestFolder(t *testing.T) {
	r := newRepo()
	blob := r.put(api.Blob, "hi")
	none := r.folder()
	entries := []api.Entry{plain("a.b", blob), in("a", none), module("b", absent), link("c", blob), runs("d", absent)}
	all := r.folder(entries...)
	d := r.open(t)
	lists(t, "all", d, all, api.OK, entries...)
	lists(t, "none", d, none, api.OK)
}

// P17.1: objects of other kinds, files that are wrong, bytes that are no tree, in the order in which they count.
func TestFolderWrong(t *testing.T) {
	r := newRepo()
	const raw = "01234567890123456789"
	right := "100644 a\x00" + raw
	var big strings.Builder
	for i := range 501 {
		fmt.Fprintf(&big, "100644 %03d\x00%s", 999-i, raw)
	}
	wants := map[string]api.Errno{
		r.put(api.Commit, right):                         api.ErrKind,
		r.put(api.Blob, right):                           api.ErrKind,
		r.put(api.Tag, right):                            api.ErrKind,
		r.put(api.Commit, ""):                            api.ErrKind,
		r.put(api.Blob, ""):                              api.ErrKind,
		r.put(api.Blob, "no tree"):                       api.ErrKind,
		r.put(api.Commit, commitText(absent, "no tree")): api.ErrKind,
		r.put(api.Tree, "no tree"):                       api.ErrEnd,
		r.put(api.Tree, right[:len(right)-1]):            api.ErrEnd,
		r.put(api.Tree, right+right[:len(right)-1]):      api.ErrEnd,
		r.put(api.Tree, "040000 a\x00"+raw):              api.ErrText,
		r.put(api.Tree, "100644a\x00"+raw):               api.ErrText,
		r.put(api.Tree, right+right):                     api.ErrForm,
		r.put(api.Tree, "100644 .git\x00"+raw):           api.ErrForm,
		r.put(api.Tree, big.String()):                    api.ErrBig,
		r.put(api.Tree, big.String()+"x"):                api.ErrBig,
		r.put(api.Tree, big.String()[:500*31]):           api.ErrForm,
	}
	swapped, broken := r.put(api.Tree, right+"1"), r.put(api.Tree, right+"2")
	r.file(swapped, framed("blob 7\x00no tree"))
	r.file(broken, "no frame")
	wants[swapped], wants[broken] = api.ErrSum, api.ErrText
	d := r.open(t)
	for id, want := range wants {
		lists(t, "wrong", d, id, want)
		leafs(t, "wrong", d, id, 9, want)
		leafs(t, "wrong", d, id, 0, want)
		at(t, "wrong", d, id, "a", api.Entry{}, want)
		at(t, "wrong", d, id, "/", api.Entry{}, want)
		at(t, "wrong", d, id, "", api.Entry{Mode: 0o40000, Id: id}, api.OK)
	}
}

// tagged: n tags on one another, on an object.
func (r *repo) tagged(id, kind string, n int) string {
	for range n {
		id, kind = r.tag(id, kind), "tag"
	}
	return id
}

// P17.1: a commit, 1 to 5 tags on it, and more; what counts behind that many.
func TestPeelTags(t *testing.T) {
	r := newRepo()
	c := r.commit("c")
	blob, folder, wrong := r.put(api.Blob, "hi"), r.folder(), r.put(api.Tag, "object x\n")
	swapped := r.put(api.Blob, "swapped")
	r.file(swapped, framed("blob 2\x00no"))
	d := r.open(t)
	peels(t, "a commit", d, c, c, api.OK)
	for n := range 12 {
		far := func(e api.Errno) api.Errno {
			if n > 5 {
				return api.ErrCycle
			}
			return e
		}
		want := c
		if n > 5 {
			want = ""
		}
		what := fmt.Sprint(n, " tags")
		onCommit := r.tagged(c, "commit", n)
		onBlob, onFolder := r.tagged(blob, "blob", n), r.tagged(folder, "tree", n)
		onNone, onSwapped := r.tagged(absent, "commit", n), r.tagged(swapped, "blob", n)
		onWrong := r.tagged(wrong, "tag", n)
		d = r.open(t)
		peels(t, what+" on a commit", d, onCommit, want, far(api.OK))
		peels(t, what+" on a blob", d, onBlob, "", far(api.ErrKind))
		peels(t, what+" on a tree", d, onFolder, "", far(api.ErrKind))
		peels(t, what+" on nothing", d, onNone, "", far(api.ErrAbsent))
		peels(t, what+" on what has another name", d, onSwapped, "", far(api.ErrSum))
		// The wrong one is a tag as well: as the sixth its bytes don't count any more.
		wrongE := api.ErrText
		if n >= 5 {
			wrongE = api.ErrCycle
		}
		peels(t, what+" on one that is wrong", d, onWrong, "", wrongE)
	}
}

// P17.1: what a tag says of its object's kind doesn't count, as long as it is some kind.
func TestPeelKinds(t *testing.T) {
	r := newRepo()
	c, blob, folder := r.commit("c"), r.put(api.Blob, "hi"), r.folder()
	tag := r.tag(c, "commit")
	ends := map[string]string{c: c, tag: c, blob: "", folder: ""}
	for id, want := range ends {
		e := api.OK
		if want == "" {
			e = api.ErrKind
		}
		for _, kind := range kindNames {
			on := r.tag(id, kind)
			peels(t, "it says "+kind, r.open(t), on, want, e)
		}
		for _, kind := range []string{"", "Commit", "module", "commit "} {
			on := r.tag(id, kind)
			peels(t, "it says "+kind, r.open(t), on, "", api.ErrForm)
		}
	}
}

// P17.1: bytes that are no tag, an object that is no name; the bytes of a commit don't count.
func TestPeelWrong(t *testing.T) {
	r := newRepo()
	c := r.commit("c")
	wants := map[string]api.Errno{
		r.put(api.Tag, ""):               api.ErrText,
		r.put(api.Tag, "object "+c+"\n"): api.ErrText,
		r.put(api.Tag, "object "+c+"\ntype commit\ntag v1\ntagger "+signed+"\n"):        api.ErrText,
		r.put(api.Tag, "object "+c+"\ntype commit\ntag \ntagger "+signed+"\n\n"):        api.ErrForm,
		r.put(api.Tag, "object "+c[:39]+"\ntype commit\ntag v1\ntagger "+signed+"\n\n"): api.ErrForm,
		r.put(api.Tag, commitText(absent, "")):                                          api.ErrText,
	}
	broken := r.put(api.Commit, "no commit")
	d := r.open(t)
	for id, want := range wants {
		peels(t, "wrong", d, id, "", want)
	}
	peels(t, "a commit whose bytes are wrong", d, broken, broken, api.OK)
}

// P17.1: tags that lead round can only stand under names that aren't theirs.
func TestPeelRound(t *testing.T) {
	r := newRepo()
	text := func(id string) string {
		data := "object " + id + "\ntype tag\ntag v1\ntagger " + signed + "\n\n"
		return framed("tag " + strconv.Itoa(len(data)) + "\x00" + data)
	}
	other := absent[:39] + "b"
	r.file(absent, text(other))
	r.file(other, text(absent))
	round := r.tag(absent, "tag")
	d := r.open(t)
	for _, id := range []string{absent, other, round} {
		peels(t, "round", d, id, "", api.ErrSum)
	}
}

// P17.4: whoever changes an answer changes no other one.
func TestMemory(t *testing.T) {
	r := newRepo()
	blob := r.put(api.Blob, "hi")
	root := r.folder(in("d", r.folder(plain("g", blob), plain("h", blob))), plain("f", blob))
	a, b := r.commit("a"), r.commit("b")
	c := r.commit("c", a, b)
	d := r.open(t)
	for range 3 {
		change, _ := Commit(d, c)
		entries, _ := Folder(d, root)
		all, _ := Ancestors(d, c, 9)
		files, _ := Leafs(d, root, 9)
		if !slices.Equal(change.Parents, []string{a, b}) || !slices.Equal(all, []string{c, a, b}) || len(entries) != 2 || entries[1] != plain("f", blob) || len(files) != 3 || files[0] != (Leaf{"d/g", 0o100644, blob}) {
			t.Fatalf("%v, %v, %v, %v", change, entries, all, files)
		}
		again, _ := Commit(d, c)
		entriesAgain, _ := Folder(d, root)
		allAgain, _ := Ancestors(d, c, 9)
		filesAgain, _ := Leafs(d, root, 9)
		clear(change.Parents[:cap(change.Parents)])
		clear(entries[:cap(entries)])
		clear(all[:cap(all)])
		clear(files[:cap(files)])
		if !slices.Equal(again.Parents, []string{a, b}) || !slices.Equal(allAgain, []string{c, a, b}) || entriesAgain[1] != plain("f", blob) || filesAgain[2] != (Leaf{"f", 0o100644, blob}) {
			t.Fatalf("another answer: %v, %v, %v, %v", again, entriesAgain, allAgain, filesAgain)
		}
	}
}
