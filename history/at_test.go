package history

import (
	"fmt"
	"strings"
	"testing"

	"cartulary/api"
	"cartulary/odb"
)

// at holds At against what the document asks.
func at(t *testing.T, what string, d *odb.Odb, id, path string, want api.Entry, wantE api.Errno) {
	t.Helper()
	if x, e := At(d, id, path); x != want || e != wantE {
		t.Errorf("%s: At(%.50q, %.80q): %v, %d, not %v, %d", what, id, path, x, e, want, wantE)
	}
}

// P17.3: paths of no part, of one and of many, and paths that lead nowhere.
func TestAt(t *testing.T) {
	r := newRepo()
	blob := r.put(api.Blob, "hi")
	deep := r.folder(runs("y", blob))
	sub := r.folder(in("deep", deep), link("l", blob))
	a := r.folder(plain("sub.z", blob), in("sub", sub), plain("x", absent))
	root := r.folder(plain("a.b", blob), in("a", a), module("m", blob), link("s", a), runs("t", root0))
	d := r.open(t)
	for path, want := range map[string]api.Entry{
		"":             in("", root),
		"a":            in("a", a),
		"a.b":          plain("a.b", blob),
		"m":            module("m", blob),
		"s":            link("s", a),
		"t":            runs("t", root0),
		"a/x":          plain("x", absent),
		"a/sub":        in("sub", sub),
		"a/sub.z":      plain("sub.z", blob),
		"a/sub/l":      link("l", blob),
		"a/sub/deep":   in("deep", deep),
		"a/sub/deep/y": runs("y", blob),
	} {
		at(t, "there", d, root, path, want, api.OK)
		if path != "" {
			at(t, "a slash at the end", d, root, path+"/", api.Entry{}, api.ErrAbsent)
		}
		for _, not := range []string{"/" + path, path + "/none", path + "//", "./" + path, "../" + path, "a/../" + path, "a//" + path, path + "\x00", path + " ", path + "/.", "none/" + path} {
			at(t, "not there", d, root, not, api.Entry{}, api.ErrAbsent)
		}
	}
	for _, path := range []string{"/", "//", "x", "A", "a.", "a.bc", "a.b/x", "a.b/", "m/x", "s/x", "s/sub", "t/x", "a/x/x", "a/sub/l/x", "a/sub/deep/y/z", "sub", "y", "deep/y", ".", "..", "a/.", "a\\x", "a/X", "x/a", blob} {
		at(t, "not there", d, root, path, api.Entry{}, api.ErrAbsent)
	}
	at(t, "from a folder within", d, a, "sub/l", link("l", blob), api.OK)
}

const root0 = "0000000000000000000000000000000000000000"

// P17.3: what a part behind leads to counts only where that is a Folder; then the error of Folder counts ahead of the name.
func TestAtWrong(t *testing.T) {
	r := newRepo()
	blob := r.put(api.Blob, "hi")
	c := r.commit("c")
	broken := r.put(api.Tree, "no tree")
	root := r.folder(in("blob", blob), in("broken", broken), in("commit", c), plain("file", absent), link("link", broken), module("module", c), in("none", absent))
	outer := r.folder(in("d", root))
	d := r.open(t)
	for name, want := range map[string]api.Errno{"blob": api.ErrKind, "broken": api.ErrEnd, "commit": api.ErrKind, "none": api.ErrAbsent, "file": api.ErrAbsent, "link": api.ErrAbsent, "module": api.ErrAbsent} {
		for _, rest := range []string{"/x", "/", "//", "/x/y", "/" + strings.Repeat("x", 300)} {
			at(t, name, d, root, name+rest, api.Entry{}, want)
			at(t, name, d, outer, "d/"+name+rest, api.Entry{}, want)
		}
		// What it is itself isn't asked.
		if x, e := At(d, root, name); e != api.OK || x.Name != name {
			t.Errorf("At(%q): %v, %d", name, x, e)
		}
	}
	at(t, "no tree", d, c, "x", api.Entry{}, api.ErrKind)
	at(t, "no tree", d, broken, "x/y", api.Entry{}, api.ErrEnd)
}

// P17.3: as many folders within one another as there are, and paths as long as they come, which At doesn't count.
func TestAtDeep(t *testing.T) {
	r := newRepo()
	blob := r.put(api.Blob, "hi")
	name := strings.Repeat("n", 100)
	id := r.folder(plain("f", blob))
	var path string
	for range 100 {
		id = r.folder(in(name, id))
		path += name + "/"
	}
	d := r.open(t)
	at(t, "deep", d, id, path+"f", plain("f", blob), api.OK)
	at(t, "deep", d, id, path+"g", api.Entry{}, api.ErrAbsent)
	at(t, "deep", d, id, path, api.Entry{}, api.ErrAbsent)
	at(t, "deep", d, id, path+"f/f", api.Entry{}, api.ErrAbsent)
	at(t, "slashes", d, id, strings.Repeat("/", 1<<22), api.Entry{}, api.ErrAbsent)
}

// tries: paths that are asked of a tree, beside those of its leafs.
func tries(leafs []Leaf) []string {
	l := []string{"", "/", "none", "."}
	for _, x := range leafs {
		parts := strings.Split(x.Path, "/")
		for i := range parts {
			front := strings.Join(parts[:i+1], "/")
			l = append(l, front, front+"/", "/"+front, front+"/x", front+"x", front[1:], front[:len(front)-1], parts[i])
		}
	}
	return l
}

// leads holds At against Leafs: a path leads to an entry other than a Folder just if it is a Leaf's path.
func leads(t *testing.T, d *odb.Odb, id string, leafs []Leaf) {
	t.Helper()
	byPath := map[string]Leaf{}
	for _, x := range leafs {
		byPath[x.Path] = x
		name := x.Path[strings.LastIndex(x.Path, "/")+1:]
		at(t, "a leaf", d, id, x.Path, api.Entry{Mode: x.Mode, Name: name, Id: x.Id}, api.OK)
	}
	for _, path := range tries(leafs) {
		x, e := At(d, id, path)
		leaf, is := byPath[path]
		if (e == api.OK && x.Mode != 0o40000) != is || is && (leaf.Id != x.Id || leaf.Mode != x.Mode) {
			t.Errorf("At(%q): %v, %d, a leaf: %v", path, x, e, leaf)
		}
		if e != api.OK && (x != api.Entry{} || e != api.ErrAbsent) {
			t.Errorf("At(%q): %v, %d", path, x, e)
		}
	}
}

// P17.3: At and Leafs of a tree with all modes.
func TestLeads(t *testing.T) {
	r := newRepo()
	blob := r.put(api.Blob, "hi")
	id := r.folder()
	for i := range 5 {
		id = r.folder(plain("a-", blob), plain("a.b", blob), in("a", id), runs("a0", blob), link("b", id), in("c", r.folder(plain(fmt.Sprint(i), blob))), module("d", absent))
	}
	d := r.open(t)
	l, e := Leafs(d, id, 500)
	if e != api.OK || len(l) != 5*6 {
		t.Fatalf("Leafs: %v, %d", l, e)
	}
	leads(t, d, id, l)
}
