package coderepo

import (
	"fmt"
	"strings"
	"testing"

	"cartulary/api"
	"cartulary/forge"
	"cartulary/loose"
	"cartulary/tree"
)

// oneCommit: a plan of a commit with these files, with the tags that are asked for and the branch main.
func oneCommit(tags []string, files ...api.File) forge.Plan {
	p := forge.Plan{Commits: []forge.Commit{{Files: files, Time: 1136214245}}, Branches: []forge.Name{{Name: "main"}}, Head: "main"}
	for _, name := range tags {
		p.Tags = append(p.Tags, forge.Name{Name: name})
	}
	return p
}

// P26.1: a module without a major: its go.mod, one that says another path, none, a folder that isn't there.
func TestPlainModule(t *testing.T) {
	tags := []string{"v1.0.0", "sub/v1.0.0", "sub/deep/v0.1.0", "none/v1.0.0", "a.go/v1.0.0", "x/v1/v1.0.0"}
	for _, c := range []struct {
		what, path, version string
		want                api.Errno
		goMod               string
		files               []api.File
	}{
		{"its go.mod", root, "v1.0.0", 0, mod(root), []api.File{file("go.mod", mod(root))}},
		{"a go.mod with more", root, "v1.0.0", 0, "// x\nmodule (\n\t\"" + root + "\"\n)\ngo 1.27", []api.File{file("go.mod", "// x\nmodule (\n\t\""+root+"\"\n)\ngo 1.27")}},
		{"none", root, "v1.0.0", 0, mod(root), []api.File{file("a.go", "")}},
		{"no files at all", root, "v1.0.0", 0, mod(root), nil},
		{"another path", root, "v1.0.0", api.ErrForm, "", []api.File{file("go.mod", mod(root+"/sub"))}},
		{"a path with a major", root, "v1.0.0", api.ErrForm, "", []api.File{file("go.mod", mod(root+"/v2"))}},
		{"no module", root, "v1.0.0", api.ErrForm, "", []api.File{file("go.mod", "go 1.27\n")}},
		{"an empty go.mod", root, "v1.0.0", api.ErrForm, "", []api.File{file("go.mod", "")}},
		{"a go.mod that is none", root, "v1.0.0", api.ErrForm, "", []api.File{file("go.mod", mod(root)+"\"")}},
		{"two modules", root, "v1.0.0", api.ErrForm, "", []api.File{file("go.mod", mod(root)+mod(root))}},
		{"a folder go.mod", root, "v1.0.0", 0, mod(root), []api.File{file("go.mod/x", mod(root))}},
		{"below", root + "/sub", "v1.0.0", 0, mod(root + "/sub"), []api.File{file("sub/go.mod", mod(root+"/sub"))}},
		{"below, none", root + "/sub", "v1.0.0", 0, mod(root + "/sub"), []api.File{file("sub/a.go", ""), file("go.mod", mod(root))}},
		{"below, only deeper", root + "/sub", "v1.0.0", 0, mod(root + "/sub"), []api.File{file("sub/deep/x", "")}},
		{"below, another path", root + "/sub", "v1.0.0", api.ErrForm, "", []api.File{file("sub/go.mod", mod(root))}},
		{"deeper", root + "/sub/deep", "v0.1.0", 0, mod(root + "/sub/deep"), []api.File{file("sub/deep/go.mod", mod(root+"/sub/deep"))}},
		{"deeper, none", root + "/sub/deep", "v0.1.0", 0, mod(root + "/sub/deep"), []api.File{file("sub/go.mod", mod(root+"/sub")), file("sub/deep/x", "")}},
		{"deeper, no folder", root + "/sub/deep", "v0.1.0", api.ErrAbsent, "", []api.File{file("sub/go.mod", mod(root+"/sub"))}},
		{"deeper, a file", root + "/sub/deep", "v0.1.0", api.ErrAbsent, "", []api.File{file("sub/deep", "")}},
		{"deeper, below a file", root + "/sub/deep", "v0.1.0", api.ErrAbsent, "", []api.File{file("sub", "")}},
		{"no folder", root + "/none", "v1.0.0", api.ErrAbsent, "", []api.File{file("go.mod", mod(root)), file("none.x", ""), file("x/none/y", "")}},
		{"no files, no folder", root + "/none", "v1.0.0", api.ErrAbsent, "", nil},
		{"a file", root + "/a.go", "v1.0.0", api.ErrAbsent, "", []api.File{file("a.go", "")}},
		{"v1 is a folder", root + "/x/v1", "v1.0.0", 0, mod(root + "/x/v1"), []api.File{file("x/v1/go.mod", mod(root+"/x/v1"))}},
		{"v1 isn't its folder", root + "/x/v1", "v1.0.0", api.ErrAbsent, "", []api.File{file("x/go.mod", mod(root+"/x/v1"))}},
	} {
		p := oneCommit(tags, c.files...)
		r := planned(t, p, forge.Style{Objects: forge.Deltas})
		m := built(t, p)
		if c.want != api.OK {
			refuses(t, c.what, r, c.path, c.version, c.want)
			fails(t, c.what, r, c.path, "main", c.want)
			lists(t, c.what, r, c.path, api.OK)
			continue
		}
		info := api.Info{Version: c.version, Id: m.Commits[0], Time: 1136214245}
		stats(t, c.what, r, c.path, c.version, api.OK, info)
		stats(t, c.what, r, c.path, "main", api.OK, info)
		goMods(t, c.what, r, c.path, c.version, c.goMod)
		lists(t, c.what, r, c.path, api.OK, c.version)
	}
}

// P26.1: a module with a major: in the folder MAJOR, then in the folder itself; one that says another path.
func TestMajorModule(t *testing.T) {
	two, three := root+"/v2", root+"/sub/v3"
	for _, c := range []struct {
		what, path, version string
		goMod               string // empty: ErrAbsent
		has                 []string
		files               []api.File
	}{
		{"in the folder v2", two, "v2.0.0", mod(two), []string{"a", "in v2", "go.mod", mod(two)}, []api.File{file("v2/go.mod", mod(two)), file("v2/a", "in v2"), file("a", "in the whole")}},
		{"in the whole", two, "v2.0.0", mod(two), []string{"a", "in the whole", "go.mod", mod(two), "v2/a", "in v2"}, []api.File{file("go.mod", mod(two)), file("v2/a", "in v2"), file("a", "in the whole")}},
		{"in both", two, "v2.0.0", mod(two) + "// in v2\n", []string{"go.mod", mod(two) + "// in v2\n"}, []api.File{file("go.mod", mod(two)), file("v2/go.mod", mod(two)+"// in v2\n"), file("a", "")}},
		{"the one in v2 says another path", two, "v2.0.0", mod(two), []string{"go.mod", mod(two)}, []api.File{file("go.mod", mod(two)), file("v2/go.mod", mod(root)), file("v2/a", "")}},
		{"the one in v2 is none", two, "v2.0.0", mod(two), []string{"go.mod", mod(two)}, []api.File{file("go.mod", mod(two)), file("v2/go.mod", "module (")}},
		{"the one in v2 is a folder", two, "v2.0.0", mod(two), []string{"go.mod", mod(two), "v2/go.mod/x", ""}, []api.File{file("go.mod", mod(two)), file("v2/go.mod/x", "")}},
		{"v2 is a file", two, "v2.0.0", mod(two), []string{"go.mod", mod(two), "v2", ""}, []api.File{file("go.mod", mod(two)), file("v2", "")}},
		{"the one in the whole says another path", two, "v2.0.0", mod(two), []string{"go.mod", mod(two)}, []api.File{file("go.mod", mod(root)), file("v2/go.mod", mod(two))}},
		{"neither says it", two, "v2.0.0", "", nil, []api.File{file("go.mod", mod(root)), file("v2/go.mod", mod(root+"/v3"))}},
		{"neither is there", two, "v2.0.0", "", nil, []api.File{file("a.go", ""), file("v2/a.go", "")}},
		{"nothing is there", two, "v2.0.0", "", nil, nil},
		{"below, in v3", three, "v3.1.0", mod(three), []string{"go.mod", mod(three)}, []api.File{file("sub/v3/go.mod", mod(three)), file("sub/a", "")}},
		{"below, in sub", three, "v3.1.0", mod(three), []string{"a", "", "go.mod", mod(three)}, []api.File{file("sub/go.mod", mod(three)), file("sub/a", "")}},
		{"below, in the whole's v3", three, "v3.1.0", "", nil, []api.File{file("v3/go.mod", mod(three)), file("go.mod", mod(three))}},
		{"below, none", three, "v3.1.0", "", nil, []api.File{file("sub/v3/a", ""), file("sub/go.mod", mod(root+"/sub"))}},
	} {
		p := oneCommit([]string{"v2.0.0", "v3.1.0", "v1.0.0", "v10.0.0", "sub/v2.0.0", "sub/v3.1.0", "v2/v2.0.0", "sub/v3/v3.0.0"}, c.files...)
		r := planned(t, p, forge.Style{Objects: forge.Packed})
		if c.goMod == "" {
			refuses(t, c.what, r, c.path, c.version, api.ErrAbsent)
			fails(t, c.what, r, c.path, "main", api.ErrAbsent)
			lists(t, c.what, r, c.path, api.OK)
			continue
		}
		info := api.Info{Version: c.version, Id: built(t, p).Commits[0], Time: 1136214245}
		stats(t, c.what, r, c.path, c.version, api.OK, info)
		stats(t, c.what, r, c.path, "main", api.OK, info)
		goMods(t, c.what, r, c.path, c.version, c.goMod)
		has(t, c.what, r, c.path, c.version, c.has...)
		lists(t, c.what, r, c.path, api.OK, c.version)
		refuses(t, c.what, r, c.path, "v1.0.0", missing(c.path))
		refuses(t, c.what, r, c.path, c.version+"+incompatible", api.ErrForm)
	}
}

// missing: what is answered of v1.0.0, which only the whole has a tag of.
func missing(path string) api.Errno {
	if strings.HasPrefix(path, root+"/sub") {
		return api.ErrAbsent
	}
	return api.ErrForm
}

// P26.1: go.mod as each mode of an entry: only Plain and Runs are files.
func TestModes(t *testing.T) {
	for mode, isFile := range map[int]bool{tree.Plain: true, tree.Runs: true, tree.Link: false, tree.Module: false, tree.Folder: false} {
		w := &world{}
		id := w.blob(mod(root + "/v2"))
		if mode == tree.Folder {
			id = w.tree()
		}
		c := w.commit(w.tree(api.Entry{Mode: mode, Name: "go.mod", Id: id}), 7)
		w.ref("refs/tags/v2.0.0", c)
		w.ref("refs/tags/v1.0.0", c)
		r, what := opened(t, w.files, root), fmt.Sprintf("mode %o", mode)
		if isFile {
			lists(t, what, r, root+"/v2", api.OK, "v2.0.0")
			refuses(t, what, r, root, "v1.0.0", api.ErrForm)
			has(t, what, r, root+"/v2", "v2.0.0", "go.mod", mod(root+"/v2"))
		} else {
			lists(t, what, r, root+"/v2", api.OK)
			refuses(t, what, r, root+"/v2", "v2.0.0", api.ErrAbsent)
			lists(t, what, r, root, api.OK, "v1.0.0", "v2.0.0+incompatible")
			goMods(t, what, r, root, "v1.0.0", mod(root))
			has(t, what, r, root, "v1.0.0")
		}
	}
	// A folder in which a module would stand, as each mode.
	for mode, want := range map[int]api.Errno{tree.Plain: api.ErrAbsent, tree.Runs: api.ErrAbsent, tree.Link: api.ErrAbsent, tree.Module: api.ErrAbsent, tree.Folder: api.OK} {
		w := &world{}
		w.ref("refs/tags/sub/v1.0.0", w.commit(w.tree(api.Entry{Mode: mode, Name: "sub", Id: w.tree()}), 7))
		r := opened(t, w.files, root)
		if want == api.OK {
			lists(t, "an empty folder", r, root+"/sub", api.OK, "v1.0.0")
		} else {
			refuses(t, fmt.Sprintf("sub of mode %o", mode), r, root+"/sub", "v1.0.0", want)
		}
	}
}

// spoil: another object in the file of an object's name.
func (w *world) spoil(id string) {
	path, _ := loose.Path(id)
	other, _ := loose.Write(api.Object{Kind: api.Blob, Data: "another one than " + id})
	w.set(path, other.Data)
}

// lose: no file of an object's name any more.
func (w *world) lose(id string) {
	path, _ := loose.Path(id)
	w.drop(path)
}

// P26.1, P26.6: objects that are wanting, that are others than their names say, or of other kinds.
func TestModuleObjects(t *testing.T) {
	type parts struct{ commit, tree, sub, goMod, subMod string }
	build := func() (*world, parts) {
		w := &world{}
		var x parts
		x.subMod = w.blob(mod(root + "/sub"))
		x.goMod = w.blob(mod(root))
		x.sub = w.tree(api.Entry{Mode: tree.Plain, Name: "go.mod", Id: x.subMod})
		x.tree = w.tree(api.Entry{Mode: tree.Plain, Name: "go.mod", Id: x.goMod}, in("sub", x.sub))
		x.commit = w.commit(x.tree, 7)
		w.ref("refs/tags/v1.0.0", x.commit)
		w.ref("refs/tags/sub/v1.0.0", x.commit)
		w.ref("refs/tags/v2.0.0", x.commit)
		w.ref("refs/heads/main", x.commit)
		return w, x
	}
	errors := func(what string, path string, want api.Errno, change func(w *world, x parts)) {
		t.Helper()
		w, x := build()
		change(w, x)
		r := opened(t, w.files, root)
		refuses(t, what, r, path, "v1.0.0", want)
		fails(t, what, r, path, "main", want)
		lists(t, what, r, path, api.OK)
	}
	lost := func(pick func(x parts) string) func(w *world, x parts) {
		return func(w *world, x parts) { w.lose(pick(x)) }
	}
	spoilt := func(pick func(x parts) string) func(w *world, x parts) {
		return func(w *world, x parts) { w.spoil(pick(x)) }
	}
	commit := func(x parts) string { return x.commit }
	whole := func(x parts) string { return x.tree }
	sub := func(x parts) string { return x.sub }
	goMod := func(x parts) string { return x.goMod }
	subMod := func(x parts) string { return x.subMod }
	for _, path := range []string{root, root + "/sub"} {
		errors("no commit", path, api.ErrAbsent, lost(commit))
		errors("another commit", path, api.ErrSum, spoilt(commit))
		errors("another tree", path, api.ErrSum, spoilt(whole))
	}
	errors("no go.mod's Blob", root, api.ErrAbsent, lost(goMod))
	errors("another go.mod's Blob", root, api.ErrSum, spoilt(goMod))
	errors("no tree sub", root+"/sub", api.ErrAbsent, func(w *world, x parts) { w.lose(x.tree) })
	errors("another tree sub", root+"/sub", api.ErrSum, spoilt(sub))
	errors("no go.mod's Blob in sub", root+"/sub", api.ErrAbsent, lost(subMod))
	errors("another go.mod's Blob in sub", root+"/sub", api.ErrSum, spoilt(subMod))

	// A tree that is wanting has no go.mod, for history.At answers ErrAbsent: the module stands in the commit's own folder all the same, but no file of it can be told.
	w, x := build()
	w.lose(x.tree)
	r := opened(t, w.files, root)
	lists(t, "no tree", r, root, api.OK, "v1.0.0", "v2.0.0+incompatible")
	goMods(t, "no tree", r, root, "v1.0.0", mod(root))
	if l, e := r.Files(root, "v1.0.0"); l != nil || e != api.ErrAbsent {
		t.Errorf("no tree: Files: %v, %d", l, e)
	}
	// So with sub's: its entry is there, and is a Folder.
	w, x = build()
	w.lose(x.sub)
	r = opened(t, w.files, root)
	goMods(t, "no tree sub", r, root+"/sub", "v1.0.0", mod(root+"/sub"))
	goMods(t, "no tree sub", r, root, "v1.0.0", mod(root))
	// What isn't asked for doesn't matter.
	w, x = build()
	w.spoil(x.subMod)
	r = opened(t, w.files, root)
	goMods(t, "another Blob elsewhere", r, root, "v1.0.0", mod(root))
	if l, e := r.Files(root, "v1.0.0"); l != nil || e != api.ErrSum {
		t.Errorf("another Blob elsewhere: Files: %v, %d", l, e)
	}
}

// P26.1: with a major: an error of the go.mod in the folder MAJOR counts ahead of the one beside it.
func TestMajorObjects(t *testing.T) {
	for _, c := range []struct {
		what         string
		mode         int
		inner, outer string // what becomes of the Blobs
		want         api.Errno
	}{
		{"both are right", tree.Plain, "", "", api.OK},
		{"the inner one is another", tree.Plain, "spoil", "", api.ErrSum},
		{"the inner one is wanting", tree.Plain, "lose", "", api.ErrAbsent},
		{"the inner one is another, but no file", tree.Link, "spoil", "", api.OK},
		{"the outer one is another", tree.Plain, "", "spoil", api.OK},
		{"the outer one is wanting", tree.Runs, "", "lose", api.OK},
		{"the outer one is another, and the inner one no file", tree.Link, "", "spoil", api.ErrSum},
		{"the outer one is wanting, and the inner one no file", tree.Module, "", "lose", api.ErrAbsent},
	} {
		w := &world{}
		inner, outer := w.blob(mod(root+"/v2")), w.blob(mod(root+"/v2")+"// beside\n")
		id := w.commit(w.tree(in("v2", w.tree(api.Entry{Mode: c.mode, Name: "go.mod", Id: inner})), api.Entry{Mode: tree.Plain, Name: "go.mod", Id: outer}), 7)
		w.ref("refs/tags/v2.0.0", id)
		for blob, what := range map[string]string{inner: c.inner, outer: c.outer} {
			switch what {
			case "spoil":
				w.spoil(blob)
			case "lose":
				w.lose(blob)
			}
		}
		r := opened(t, w.files, root)
		if c.want != api.OK {
			refuses(t, c.what, r, root+"/v2", "v2.0.0", c.want)
			lists(t, c.what, r, root+"/v2", api.OK)
			continue
		}
		lists(t, c.what, r, root+"/v2", api.OK, "v2.0.0")
		same(t, c.what, r, root+"/v2", "v2.0.0")
	}
}

// P26.1: objects of other kinds than are asked for.
func TestModuleKinds(t *testing.T) {
	w := &world{}
	blob, empty := w.blob("x"), w.tree()
	for name, id := range map[string]string{
		"refs/tags/v1.0.0": w.commit(blob, 1),
		"refs/tags/v1.1.0": w.commit(w.tree(api.Entry{Mode: tree.Plain, Name: "go.mod", Id: empty}), 1),
		"refs/tags/v1.2.0": w.commit(w.tree(in("sub", blob)), 1),
		"refs/tags/v1.3.0": w.put(api.Commit, "no commit\n"),
		"refs/tags/v1.4.0": w.commit(w.put(api.Tree, "no tree"), 1),
		"refs/tags/v1.5.0": w.put(api.Tag, "no tag\n"),
		"refs/tags/v1.6.0": blob,
		"refs/tags/v1.7.0": empty,
	} {
		w.ref(name, id)
		w.ref(strings.Replace(name, "tags/", "tags/sub/", 1), id)
	}
	r := opened(t, w.files, root)
	for version, want := range map[string]api.Errno{"v1.0.0": api.ErrKind, "v1.1.0": api.ErrKind, "v1.3.0": api.ErrText, "v1.4.0": api.ErrEnd, "v1.5.0": api.ErrText, "v1.6.0": api.ErrKind, "v1.7.0": api.ErrKind} {
		refuses(t, "of another kind", r, root, version, want)
	}
	for version, want := range map[string]api.Errno{"v1.0.0": api.ErrKind, "v1.1.0": api.ErrAbsent, "v1.2.0": api.ErrKind, "v1.3.0": api.ErrText, "v1.4.0": api.ErrEnd} {
		refuses(t, "of another kind", r, root+"/sub", version, want)
	}
	lists(t, "of other kinds", r, root, api.OK, "v1.2.0")
	lists(t, "of other kinds", r, root+"/sub", api.OK)
}
