package coderepo

import (
	"fmt"
	"slices"
	"strings"
	"testing"

	"cartulary/api"
	"cartulary/commit"
	"cartulary/forge"
	"cartulary/loose"
	"cartulary/modzip"
	"cartulary/object"
	"cartulary/tree"
)

const root = "example.com/repo"

// world is files that become a repository, of whatever objects and references.
type world struct {
	files []api.File
}

// set: a file at a path, in the stead of any that is there.
func (w *world) set(path, data string) {
	w.drop(path)
	w.files = append(w.files, api.File{Path: path, Data: data})
}

// drop takes the file at a path away.
func (w *world) drop(path string) {
	w.files = slices.DeleteFunc(w.files, func(f api.File) bool { return f.Path == path })
}

// put: an object in a file of its own; its name.
func (w *world) put(kind int, data string) string {
	o := api.Object{Kind: kind, Data: data}
	file, e := loose.Write(o)
	if e != api.OK {
		panic(fmt.Sprintf("an object that is none: %d, %.80q", e, data))
	}
	w.set(file.Path, file.Data)
	id, _ := object.Id(o)
	return id
}

// blob: of these bytes.
func (w *world) blob(data string) string {
	return w.put(api.Blob, data)
}

// tree: of these entries, in any order.
func (w *world) tree(l ...api.Entry) string {
	key := func(x api.Entry) string {
		if x.Mode == tree.Folder {
			return x.Name + "/"
		}
		return x.Name
	}
	l = slices.Clone(l)
	slices.SortFunc(l, func(a, b api.Entry) int { return strings.Compare(key(a), key(b)) })
	text, e := tree.Format(l)
	if e != api.OK {
		panic(fmt.Sprintf("a tree that is none: %d, %v", e, l))
	}
	return w.put(api.Tree, text)
}

// plain: an entry of a file of these bytes.
func (w *world) plain(name, data string) api.Entry {
	return api.Entry{Mode: tree.Plain, Name: name, Id: w.blob(data)}
}

// in: an entry of a folder.
func in(name, id string) api.Entry {
	return api.Entry{Mode: tree.Folder, Name: name, Id: id}
}

// commit: of a tree, at a second.
func (w *world) commit(id string, time int, parents ...string) string {
	who := api.Sign{Who: "ann <ann@example.com>", Time: time, Zone: 90}
	author := api.Sign{Who: "bob <bob@example.com>", Time: 5}
	text, e := commit.Format(api.Change{Tree: id, Parents: parents, Author: author, Committer: who})
	if e != api.OK {
		panic(fmt.Sprintf("a commit that is none: %d", e))
	}
	return w.put(api.Commit, text)
}

// tag: of an object.
func (w *world) tag(id string, kind int) string {
	text, e := commit.FormatTag(api.Label{Object: id, Kind: kind, Name: "a tag", Tagger: api.Sign{Who: "ann"}})
	if e != api.OK {
		panic(fmt.Sprintf("a tag that is none: %d", e))
	}
	return w.put(api.Tag, text)
}

// ref: a reference to an object.
func (w *world) ref(name, id string) {
	w.set(name, id+"\n")
}

// repo is an open repository beside what the document's words make of its files.
type repo struct {
	*Repo
	words *words
}

// opened: files under a root.
func opened(t *testing.T, files []api.File, root string) repo {
	t.Helper()
	r, e := Open(files, root)
	w, we := openByWords(files, root)
	if e != api.OK || we != api.OK {
		t.Fatalf("Open(%d files, %q): %d, by words %d", len(files), root, e, we)
	}
	return repo{r, w}
}

// planned: a plan in a style, under the root.
func planned(t *testing.T, p forge.Plan, style forge.Style) repo {
	t.Helper()
	files, e := forge.Build(p, style)
	if e != api.OK {
		t.Fatalf("Build(%+v): %d", p, e)
	}
	return opened(t, files, root)
}

// stats holds Stat, and its model, against what the document asks.
func stats(t *testing.T, what string, r repo, path, query string, wantE api.Errno, want api.Info) {
	t.Helper()
	if x, e := r.Stat(path, query); x != want || e != wantE {
		t.Errorf("%s: Stat(%s, %s): %v, %d, not %v, %d", what, path, query, x, e, want, wantE)
	}
	if x, e := r.words.stat(path, query); x != want || e != wantE {
		t.Errorf("%s: stat by words(%s, %s): %v, %d, not %v, %d", what, path, query, x, e, want, wantE)
	}
}

// fails holds the error of Stat against what the document asks.
func fails(t *testing.T, what string, r repo, path, query string, want api.Errno) {
	t.Helper()
	stats(t, what, r, path, query, want, api.Info{})
}

// refuses holds the error of a version against what the document asks, of all calls that are asked for one.
func refuses(t *testing.T, what string, r repo, path, version string, want api.Errno) {
	t.Helper()
	fails(t, what, r, path, version, want)
	if s, e := r.GoMod(path, version); s != "" || e != want {
		t.Errorf("%s: GoMod(%s, %s): %q, %d, not %d", what, path, version, s, e, want)
	}
	if l, e := r.Files(path, version); l != nil || e != want {
		t.Errorf("%s: Files(%s, %s): %v, %d, not %d", what, path, version, l, e, want)
	}
	if s, e := r.Zip(path, version); s != "" || e != want {
		t.Errorf("%s: Zip(%s, %s): %q, %d, not %d", what, path, version, s, e, want)
	}
	if s, e := r.Hash(path, version); s != "" || e != want {
		t.Errorf("%s: Hash(%s, %s): %q, %d, not %d", what, path, version, s, e, want)
	}
	same(t, what, r, path, version)
}

// lists holds List, and its model, against what the document asks.
func lists(t *testing.T, what string, r repo, path string, wantE api.Errno, want ...string) {
	t.Helper()
	if l, e := r.List(path); !slices.Equal(l, want) || e != wantE || e != api.OK && l != nil {
		t.Errorf("%s: List(%s): %v, %d, not %v, %d", what, path, l, e, want, wantE)
	}
	if l, e := r.words.list(path); !slices.Equal(l, want) || e != wantE {
		t.Errorf("%s: list by words(%s): %v, %d, not %v, %d", what, path, l, e, want, wantE)
	}
}

// latest holds Latest, and its model, against what the document asks.
func latest(t *testing.T, what string, r repo, path string, wantE api.Errno, want api.Info) {
	t.Helper()
	if x, e := r.Latest(path); x != want || e != wantE {
		t.Errorf("%s: Latest(%s): %v, %d, not %v, %d", what, path, x, e, want, wantE)
	}
	if x, e := r.words.latest(path); x != want || e != wantE {
		t.Errorf("%s: latest by words(%s): %v, %d, not %v, %d", what, path, x, e, want, wantE)
	}
}

// goMods holds GoMod against what the document asks.
func goMods(t *testing.T, what string, r repo, path, version, want string) {
	t.Helper()
	if s, e := r.GoMod(path, version); s != want || e != api.OK {
		t.Errorf("%s: GoMod(%s, %s): %q, %d, not %q", what, path, version, s, e, want)
	}
	same(t, what, r, path, version)
}

// has holds Files against these paths and bytes by turns; Zip and Hash are modzip's of them.
func has(t *testing.T, what string, r repo, path, version string, want ...string) {
	t.Helper()
	l, e := r.Files(path, version)
	var got []string
	for _, f := range l {
		got = append(got, f.Path, f.Data)
	}
	if !slices.Equal(got, want) || e != api.OK {
		t.Errorf("%s: Files(%s, %s): %.300q, %d, not %.300q", what, path, version, got, e, want)
	}
	archive, e := r.Zip(path, version)
	if unpacked, f := modzip.Unpack(path, version, archive); !slices.Equal(unpacked, l) || e != api.OK || f != api.OK {
		t.Errorf("%s: Zip(%s, %s): %d, of %d files, %d, not %d files", what, path, version, e, len(unpacked), f, len(l))
	}
	if hash, e := r.Hash(path, version); hash != modzip.Hash(path, version, l) || e != api.OK {
		t.Errorf("%s: Hash(%s, %s): %s, %d", what, path, version, hash, e)
	}
	same(t, what, r, path, version)
}

// same holds every call with these arguments against the document's words.
func same(t *testing.T, what string, r repo, path, query string) {
	t.Helper()
	dir, major, e := r.Place(path)
	if wantDir, wantMajor, wantE := r.words.place(path); dir != wantDir || major != wantMajor || e != wantE {
		t.Errorf("%s: Place(%s): %q, %q, %d, not %q, %q, %d", what, path, dir, major, e, wantDir, wantMajor, wantE)
	}
	list, e := r.List(path)
	if want, wantE := r.words.list(path); !slices.Equal(list, want) || e != wantE {
		t.Errorf("%s: List(%s): %v, %d, not %v, %d", what, path, list, e, want, wantE)
	}
	x, e := r.Latest(path)
	if want, wantE := r.words.latest(path); x != want || e != wantE {
		t.Errorf("%s: Latest(%s): %v, %d, not %v, %d", what, path, x, e, want, wantE)
	}
	x, e = r.Stat(path, query)
	if want, wantE := r.words.stat(path, query); x != want || e != wantE {
		t.Errorf("%s: Stat(%s, %s): %v, %d, not %v, %d", what, path, query, x, e, want, wantE)
	}
	mod, e := r.GoMod(path, query)
	if want, wantE := r.words.goMod(path, query); mod != want || e != wantE {
		t.Errorf("%s: GoMod(%s, %s): %q, %d, not %q, %d", what, path, query, mod, e, want, wantE)
	}
	files, e := r.Files(path, query)
	want, wantE := r.words.files(path, query)
	if !slices.Equal(files, want) || e != wantE {
		t.Errorf("%s: Files(%s, %s): %.200v, %d, not %.200v, %d", what, path, query, files, e, want, wantE)
	}
	wantZip, wantHash, zipE := "", "", wantE
	if wantE == api.OK {
		wantZip, zipE = modzip.Pack(path, query, want)
		wantHash = modzip.Hash(path, query, want)
	}
	if s, e := r.Zip(path, query); s != wantZip || e != zipE {
		t.Errorf("%s: Zip(%s, %s): %d bytes, %d, not %d, %d", what, path, query, len(s), e, len(wantZip), zipE)
	}
	if s, e := r.Hash(path, query); s != wantHash || e != wantE {
		t.Errorf("%s: Hash(%s, %s): %s, %d, not %s, %d", what, path, query, s, e, wantHash, wantE)
	}
}

// file: one of a plan.
func file(path, data string) api.File {
	return api.File{Path: path, Data: data}
}

// mod: a go.mod that says this path.
func mod(path string) string {
	return "module " + path + "\n"
}
