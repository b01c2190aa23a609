package coderepo

import (
	"fmt"
	"strings"
	"testing"

	"cartulary/api"
	"cartulary/forge"
	"cartulary/modzip"
	"cartulary/tree"
	"cartulary/zip"
)

// noFiles holds the error of Files, Zip and Hash of a version that is there against what the document asks.
func noFiles(t *testing.T, what string, r repo, path, version string, want api.Errno) {
	t.Helper()
	if _, e := r.Stat(path, version); e != api.OK {
		t.Errorf("%s: Stat(%s, %s): %d", what, path, version, e)
	}
	if l, e := r.Files(path, version); l != nil || e != want {
		t.Errorf("%s: Files(%s, %s): %.100v, %d, not %d", what, path, version, l, e, want)
	}
	if s, e := r.Zip(path, version); s != "" || e != want {
		t.Errorf("%s: Zip(%s, %s): %.100q, %d, not %d", what, path, version, s, e, want)
	}
	if s, e := r.Hash(path, version); s != "" || e != want {
		t.Errorf("%s: Hash(%s, %s): %.100q, %d, not %d", what, path, version, s, e, want)
	}
	same(t, what, r, path, version)
}

// P26.1, P26.5: which files a version has: no other module's, none of vendor, and the LICENSE of the whole.
func TestFiles(t *testing.T) {
	sub := root + "/sub"
	p := oneCommit([]string{"v1.0.0", "sub/v1.0.0", "sub/deep/v1.0.0", "sub/v3.0.0", "v2.0.0"},
		file("LICENSE", "of the whole"), file("a.go", "a"), file("go.mod", mod(root)), file("vendor/x/y.go", "y"), file("x/vendor/z", "z"), file("vendor.txt", "v"),
		file("sub/go.mod", mod(sub)), file("sub/b.go", "b"), file("sub/deep/c.go", "c"), file("sub/deep/LICENSE", "of deep"), file("sub/vendor/x", "x"), file("sub/other/go.mod", "not even a module"), file("sub/other/d.go", "d"),
		file("sub/v3/go.mod", mod(sub+"/v3")), file("sub/v3/e.go", "e"), file("v2/go.mod", mod(root+"/v2")), file("v2/LICENSE", "of v2"), file("v2/f.go", "f"), file("plain/g.go", "g"))
	for _, style := range styles() {
		r, what := planned(t, p, style), fmt.Sprint(style)
		has(t, what, r, root, "v1.0.0", "LICENSE", "of the whole", "a.go", "a", "go.mod", mod(root), "plain/g.go", "g", "vendor.txt", "v")
		has(t, what, r, sub, "v1.0.0", "LICENSE", "of the whole", "b.go", "b", "deep/LICENSE", "of deep", "deep/c.go", "c", "go.mod", mod(sub))
		has(t, what, r, sub+"/deep", "v1.0.0", "LICENSE", "of deep", "c.go", "c")
		has(t, what, r, sub+"/v3", "v3.0.0", "LICENSE", "of the whole", "e.go", "e", "go.mod", mod(sub+"/v3"))
		has(t, what, r, root+"/v2", "v2.0.0", "LICENSE", "of v2", "f.go", "f", "go.mod", mod(root+"/v2"))
		goMods(t, what, r, sub+"/deep", "v1.0.0", mod(sub+"/deep"))
		goMods(t, what, r, sub+"/v3", "v3.0.0", mod(sub+"/v3"))
		archive, _ := r.Zip(sub+"/v3", "v3.0.0")
		l, e := zip.Read(archive)
		if e != api.OK || len(l) != 3 || l[0].Path != "example.com/repo/sub/v3@v3.0.0/LICENSE" || l[1].Path != "example.com/repo/sub/v3@v3.0.0/e.go" {
			t.Errorf("%s: Zip: %v, %d", what, l, e)
		}
	}
}

// P26.1: modes: those that run are files, links and modules aren't, but a LICENSE that is one.
func TestFileModes(t *testing.T) {
	w := &world{}
	entry := func(mode int, name, data string) api.Entry {
		return api.Entry{Mode: mode, Name: name, Id: w.blob(data)}
	}
	// A link's Blob, and a module's commit, aren't asked for.
	gone := strings.Repeat("0", 40)
	sub := w.tree(entry(tree.Runs, "run.sh", "run"), entry(tree.Link, "LICENSE", "../LICENSE"), api.Entry{Mode: tree.Link, Name: "lost", Id: gone}, api.Entry{Mode: tree.Module, Name: "other", Id: gone})
	w.ref("refs/tags/v1.0.0", w.commit(w.tree(entry(tree.Runs, "LICENSE", "it runs"), in("sub", sub), entry(tree.Link, "link", "a")), 7))
	w.ref("refs/tags/sub/v1.0.0", w.commit(w.tree(entry(tree.Runs, "LICENSE", "it runs"), in("sub", sub)), 7))
	w.ref("refs/tags/sub/v1.1.0", w.commit(w.tree(entry(tree.Link, "LICENSE", "sub"), in("sub", sub)), 7))
	r := opened(t, w.files, root)
	has(t, "modes", r, root, "v1.0.0", "LICENSE", "it runs", "sub/run.sh", "run")
	has(t, "modes", r, root+"/sub", "v1.0.0", "LICENSE", "it runs", "run.sh", "run")
	has(t, "modes", r, root+"/sub", "v1.1.0", "run.sh", "run")
}

// P26.1: 500 files of a commit and one more; folders as deep as they may be and deeper; paths too long.
func TestFileLimits(t *testing.T) {
	w := &world{}
	x := w.blob("x")
	folders := func(n int) string {
		var l []api.Entry
		for i := range n {
			l = append(l, api.Entry{Mode: tree.Plain, Name: fmt.Sprintf("f%03d", i), Id: x})
		}
		return w.tree(l...)
	}
	deep := func(n int, name string) string {
		id := w.tree(api.Entry{Mode: tree.Plain, Name: "f", Id: x})
		for range n {
			id = w.tree(in(name, id))
		}
		return id
	}
	long := strings.Repeat("n", 66)
	for name, id := range map[string]string{
		"v1.0.0":     w.tree(in("a", folders(250)), in("b", folders(250))),
		"v1.1.0":     w.tree(in("a", folders(250)), in("b", folders(251))),
		"v1.2.0":     deep(15, "d"),
		"v1.3.0":     deep(16, "d"),
		"v1.4.0":     deep(2, long),
		"v1.5.0":     deep(3, long),
		"b/v1.0.0":   w.tree(in("a", folders(250)), in("b", folders(250))),
		"b/v1.1.0":   w.tree(in("a", folders(251)), in("b", folders(250))),
		"d/d/v1.0.0": deep(16, "d"),
	} {
		w.ref("refs/tags/"+name, w.commit(id, 7))
	}
	r := opened(t, w.files, root)
	if l, e := r.Files(root, "v1.0.0"); len(l) != 500 || e != api.OK {
		t.Errorf("500 files: %d, %d", len(l), e)
	}
	if l, e := r.Files(root+"/b", "v1.0.0"); len(l) != 250 || e != api.OK {
		t.Errorf("250 of 500 files: %d, %d", len(l), e)
	}
	noFiles(t, "501 files", r, root, "v1.1.0", api.ErrBudget)
	noFiles(t, "250 of 501 files", r, root+"/b", "v1.1.0", api.ErrBudget)
	has(t, "15 folders", r, root, "v1.2.0", strings.Repeat("d/", 15)+"f", "x")
	noFiles(t, "16 folders", r, root, "v1.3.0", api.ErrCycle)
	noFiles(t, "16 folders about it", r, root+"/d/d", "v1.0.0", api.ErrCycle)
	has(t, "a path of 135 bytes", r, root, "v1.4.0", long+"/"+long+"/f", "x")
	noFiles(t, "a path of 202 bytes", r, root, "v1.5.0", api.ErrBig)
}

// P26.1: the errors of Files in their order: the tree's, the first Blob's, Select's.
func TestFileErrors(t *testing.T) {
	w := &world{}
	bad := func(name string) api.Entry {
		return api.Entry{Mode: tree.Plain, Name: name, Id: w.blob("spoilt: " + name)}
	}
	lost := func(name string) api.Entry {
		return api.Entry{Mode: tree.Plain, Name: name, Id: strings.Repeat("0", 40)}
	}
	kind := func(name string) api.Entry {
		return api.Entry{Mode: tree.Runs, Name: name, Id: w.tree()}
	}
	noTree := in("z", strings.Repeat("1", 40))
	colon := w.plain("a:b", "")
	for name, l := range map[string][]api.Entry{
		"v1.0.0":     {bad("a"), lost("b"), kind("c")},
		"v1.1.0":     {lost("a"), bad("b"), kind("c")},
		"v1.2.0":     {kind("a"), lost("b"), bad("c")},
		"v1.3.0":     {bad("a"), noTree},
		"v1.4.0":     {colon, bad("b")},
		"v1.5.0":     {colon, w.plain("b", "")},
		"v1.6.0":     {w.plain("A.go", ""), w.plain("a.go", "")},
		"v1.7.0":     {colon, w.plain("A.go", ""), w.plain("a.go", "")},
		"sub/v1.0.0": {in("sub", w.tree(w.plain("a", "a"))), bad("z")},
		"sub/v1.1.0": {in("sub", w.tree(w.plain("a", "a"))), colon},
		"sub/v1.2.0": {in("sub", w.tree(colon)), w.plain("b", "")},
	} {
		w.ref("refs/tags/"+name, w.commit(w.tree(l...), 7))
	}
	for _, name := range []string{"a", "b", "c", "z"} {
		w.spoil(bad(name).Id)
	}
	r := opened(t, w.files, root)
	for version, want := range map[string]api.Errno{"v1.0.0": api.ErrSum, "v1.1.0": api.ErrAbsent, "v1.2.0": api.ErrKind, "v1.3.0": api.ErrAbsent, "v1.4.0": api.ErrSum, "v1.5.0": api.ErrForm, "v1.6.0": api.ErrDouble, "v1.7.0": api.ErrForm} {
		noFiles(t, version, r, root, version, want)
	}
	noFiles(t, "a Blob elsewhere", r, root+"/sub", "v1.0.0", api.ErrSum)
	has(t, "a wrong path elsewhere", r, root+"/sub", "v1.1.0", "a", "a")
	noFiles(t, "a wrong path", r, root+"/sub", "v1.2.0", api.ErrForm)
	// Too many bytes: 500000 are right.
	for n, want := range map[int]api.Errno{50000: api.OK, 50001: api.ErrBig} {
		p := oneCommit([]string{"v1.0.0"}, file("0", strings.Repeat("0", n)))
		for i := 1; i < 10; i++ {
			p.Commits[0].Files = append(p.Commits[0].Files, file(fmt.Sprint(i), strings.Repeat(fmt.Sprint(i), 50000)))
		}
		r := planned(t, p, forge.Style{Objects: forge.Packed})
		if want == api.OK {
			if l, e := r.Files(root, "v1.0.0"); len(l) != 10 || e != api.OK {
				t.Errorf("500000 bytes: %d files, %d", len(l), e)
			}
			same(t, "500000 bytes", r, root, "v1.0.0")
		} else {
			noFiles(t, "500001 bytes", r, root, "v1.0.0", want)
		}
	}
}

// P26.1: an archive whose paths would have more than 200 bytes; a hash isn't asked for that.
func TestZipLimits(t *testing.T) {
	front := len(root + "@v1.0.0/")
	for n, want := range map[int]api.Errno{200 - front: api.OK, 201 - front: api.ErrForm} {
		path := strings.Repeat("a", 90) + "/" + strings.Repeat("b", n-91)
		r := planned(t, oneCommit([]string{"v1.0.0"}, file(path, "x")), forge.Style{})
		l, e := r.Files(root, "v1.0.0")
		if len(l) != 1 || l[0].Path != path || e != api.OK {
			t.Errorf("a path of %d bytes: Files: %v, %d", n, l, e)
		}
		if s, e := r.Zip(root, "v1.0.0"); e != want || (s == "") != (e != api.OK) {
			t.Errorf("a path of %d bytes: Zip: %d bytes, %d, not %d", n, len(s), e, want)
		}
		if s, e := r.Hash(root, "v1.0.0"); s != modzip.Hash(root, "v1.0.0", l) || e != api.OK {
			t.Errorf("a path of %d bytes: Hash: %s, %d", n, s, e)
		}
		same(t, "a long path", r, root, "v1.0.0")
	}
}

// P26.5: versions of one commit have one go.mod and the same files; archive and hash have the version in them.
func TestOneCommit(t *testing.T) {
	p := oneCommit([]string{"v1.0.0", "v1.1.0", "v0.9.0-rc.1", "v2.0.0"}, file("a", "x"))
	m := built(t, p)
	r := planned(t, p, forge.Style{Objects: forge.Deltas})
	versions := []string{"v1.0.0", "v1.1.0", "v0.9.0-rc.1", "v2.0.0+incompatible", "v0.0.0-20060102150405-" + m.Commits[0][:12], "v1.1.1-0.20060102150405-" + m.Commits[0][:12]}
	seen := map[string]int{}
	for _, version := range versions {
		goMods(t, "one commit", r, root, version, mod(root))
		has(t, "one commit", r, root, version, "a", "x")
		hash, _ := r.Hash(root, version)
		archive, _ := r.Zip(root, version)
		seen[hash]++
		seen[archive]++
	}
	if len(seen) != 2*len(versions) {
		t.Errorf("%d unlike hashes and archives of %d versions", len(seen), len(versions))
	}
}
