package coderepo

import (
	"crypto/sha1"
	"fmt"
	"strings"
	"testing"

	"cartulary/api"
	"cartulary/forge"
)

// zero: the pseudo-version without a base of a commit of 2006-01-02 15:04:05.
func zero(id string) api.Info {
	return api.Info{Version: "v0.0.0-20060102150405-" + id[:12], Id: id, Time: 1136214245}
}

// revisionWorld: three commits that aren't before one another; a tag's object of the last.
func revisionWorld() (w *world, ids []string, tag string) {
	w = &world{}
	for i := range 3 {
		ids = append(ids, w.commit(w.tree(w.plain("go.mod", mod(root)), w.plain("n", fmt.Sprint(i))), 1136214245))
	}
	return w, ids, w.tag(ids[2], api.Commit)
}

// P26.1: HEAD: a branch's, a commit's own, none, one that leads nowhere or round; a branch and a tag that are called so.
func TestHead(t *testing.T) {
	w, ids, tag := revisionWorld()
	w.ref("refs/heads/main", ids[0])
	w.ref("refs/heads/HEAD", ids[1])
	w.ref("refs/tags/HEAD", ids[1])
	w.ref("refs/tags/note", tag)
	r := opened(t, w.files, root)
	fails(t, "no HEAD", r, root, "HEAD", api.ErrForm)
	latest(t, "no HEAD", r, root, api.ErrForm, api.Info{})
	for _, c := range []struct {
		text string
		want api.Errno
		id   string
	}{
		{"ref: refs/heads/main\n", api.OK, ids[0]},
		{"ref: refs/heads/HEAD\n", api.OK, ids[1]},
		{ids[2] + "\n", api.OK, ids[2]},
		{tag + "\n", api.OK, ids[2]},
		{"ref: refs/tags/note\n", api.OK, ids[2]},
		// What it leads to isn't there: d.Resolve is asked, for whom these aren't digits.
		{"ref: refs/heads/none\n", api.ErrForm, ""},
		{"ref: HEAD\n", api.ErrCycle, ""},
		{"no reference\n", api.ErrText, ""},
		{"", api.ErrText, ""},
		{strings.Repeat("0", 40) + "\n", api.ErrAbsent, ""},
		{w.blob("x") + "\n", api.ErrKind, ""},
		{w.tree() + "\n", api.ErrKind, ""},
	} {
		w.set("HEAD", c.text)
		r := opened(t, w.files, root)
		if c.want != api.OK {
			fails(t, c.text, r, root, "HEAD", c.want)
			latest(t, c.text, r, root, c.want, api.Info{})
			continue
		}
		stats(t, c.text, r, root, "HEAD", api.OK, zero(c.id))
		latest(t, c.text, r, root, api.OK, zero(c.id))
		fails(t, c.text, r, root+"/sub", "HEAD", api.ErrAbsent)
	}
	fails(t, "small letters", opened(t, w.files, root), root, "head", api.ErrForm)
}

// P26.1: branches and tags: which of two of one name, what their names may be, and that they go ahead of digits.
func TestReferences(t *testing.T) {
	w, ids, tag := revisionWorld()
	w.ref("refs/heads/both", ids[0])
	w.ref("refs/tags/both", ids[1])
	w.ref("refs/heads/a/b", ids[1])
	w.ref("refs/tags/only", ids[1])
	w.ref("refs/tags/note", tag)
	w.ref("refs/heads/note2", tag)
	w.ref("refs/other/x", ids[0])
	w.ref("refs/heads/"+ids[0][:7], ids[1])
	w.ref("refs/tags/"+ids[1], ids[2])
	w.ref("refs/heads/beef", ids[2])
	w.set("refs/heads/broken", "no reference")
	w.ref("refs/tags/broken", ids[0])
	w.set("refs/heads/nowhere", "ref: refs/heads/none\n")
	w.ref("refs/tags/nowhere", ids[2])
	w.set("refs/heads/round", "ref: refs/heads/round\n")
	w.ref("refs/tags/round", ids[2])
	w.ref("refs/heads/lost", strings.Repeat("0", 40))
	w.ref("refs/tags/lost", ids[2])
	w.ref("refs/heads/blob", w.blob("x"))
	w.ref("refs/tags/blob", ids[2])
	w.set("packed-refs", ids[2]+" refs/heads/both\n"+ids[2]+" refs/heads/packed\n"+tag+" refs/tags/packed\n"+ids[0]+" refs/tags/deep\n"+ids[1]+" refs/heads/v1.0\n")
	r := opened(t, w.files, root)
	for query, id := range map[string]string{"both": ids[0], "a/b": ids[1], "only": ids[1], "note": ids[2], "note2": ids[2], ids[0][:7]: ids[1], ids[1]: ids[2], "beef": ids[2], "nowhere": ids[2], "packed": ids[2], "deep": ids[0]} {
		stats(t, "a reference", r, root, query, api.OK, zero(id))
	}
	for query, want := range map[string]api.Errno{
		"broken": api.ErrText, "round": api.ErrCycle, "lost": api.ErrAbsent, "blob": api.ErrKind,
		"none": api.ErrForm, "": api.ErrForm, "a": api.ErrForm, "a/": api.ErrForm, "x": api.ErrForm, "other/x": api.ErrForm, "heads/both": api.ErrForm, "refs/heads/both": api.ErrForm,
		"both.lock": api.ErrForm, "a..b": api.ErrForm, "both\n": api.ErrForm, "bo th": api.ErrForm, "latest": api.ErrForm,
		// A version, though there is such a branch.
		"v1.0": api.ErrForm,
	} {
		fails(t, "a reference", r, root, query, want)
	}
}

// P26.1: digits of a name: from four to forty; of tags, of other things, of none.
func TestDigits(t *testing.T) {
	w, ids, tag := revisionWorld()
	blob, tree := w.blob("some bytes"), w.tree()
	r := opened(t, w.files, root)
	for n := 4; n <= 40; n++ {
		for _, id := range ids {
			stats(t, fmt.Sprint(n, " digits"), r, root, id[:n], api.OK, zero(id))
		}
		stats(t, fmt.Sprint(n, " digits of a tag"), r, root, tag[:n], api.OK, zero(ids[2]))
		fails(t, fmt.Sprint(n, " digits of a Blob"), r, root, blob[:n], api.ErrKind)
		fails(t, fmt.Sprint(n, " digits of a tree"), r, root, tree[:n], api.ErrKind)
		fails(t, fmt.Sprint(n, " digits of none"), r, root, strings.Repeat("f", n), api.ErrAbsent)
	}
	for n := range 4 {
		fails(t, "few digits", r, root, ids[0][:n], api.ErrForm)
	}
	fails(t, "41 digits", r, root, ids[0]+"0", api.ErrForm)
	fails(t, "great letters", r, root, strings.ToUpper(ids[0][:12])+"A", api.ErrForm)
	// An object that is wanting, or another one, under its name.
	w.spoil(ids[0])
	w.lose(ids[1])
	r = opened(t, w.files, root)
	fails(t, "another object", r, root, ids[0], api.ErrSum)
	fails(t, "no object", r, root, ids[1], api.ErrAbsent)
	stats(t, "a right one", r, root, ids[2], api.OK, zero(ids[2]))
}

// P26.1: digits that two objects share (the tenth example of the whole), in all styles.
func TestDouble(t *testing.T) {
	p := oneCommit(nil, file("go.mod", mod(root)))
	id := built(t, p).Commits[0]
	twin := ""
	for i := 0; twin == ""; i++ {
		data := fmt.Sprint("a Blob like no other: ", i)
		if sum := fmt.Sprintf("%x", sha1.Sum([]byte(fmt.Sprintf("blob %d\x00%s", len(data), data)))); sum[:4] == id[:4] {
			twin = data
		}
	}
	p.Commits = append(p.Commits, forge.Commit{Files: []api.File{file("twin", twin)}, Time: 1})
	for _, style := range styles() {
		r := planned(t, p, style)
		fails(t, "four digits of two", r, root, id[:4], api.ErrDouble)
		stats(t, "all digits", r, root, id, api.OK, zero(id))
		stats(t, "twelve digits", r, root, id[:12], api.OK, zero(id))
	}
	p.Branches = append(p.Branches, forge.Name{Name: id[:4]})
	stats(t, "a branch of that name", planned(t, p, forge.Style{}), root, id[:4], api.OK, zero(id))
}

// P26.1: of a revision: the tag that leads here, the last of several, as it is called; else the base, the last of those before.
func TestRevisionVersion(t *testing.T) {
	for _, c := range []struct {
		what, path, query string
		tags              []forge.Name
		want              string // with TIME and REV; empty: the commit's pseudo-version without a base
	}{
		{"no tag", root, "main", nil, "v0.0.0-SEGMENT"},
		{"no tag, a major", root + "/v2", "main", nil, "v2.0.0-SEGMENT"},
		{"no tag, a folder", root + "/sub", "main", nil, "v0.0.0-SEGMENT"},
		{"its own", root, "main", []forge.Name{{Name: "v1.0.0", Commit: 3}}, "v1.0.0"},
		{"its own, with an object", root, "main", []forge.Name{{Name: "v1.0.0", Commit: 3, Note: true}}, "v1.0.0"},
		{"several", root, "main", []forge.Name{{Name: "v1.0.0", Commit: 3}, {Name: "v1.10.0", Commit: 3}, {Name: "v1.9.0", Commit: 3}, {Name: "v1.11.0", Commit: 2}}, "v1.10.0"},
		{"a release and a prerelease", root, "main", []forge.Name{{Name: "v1.0.0-rc.1", Commit: 3}, {Name: "v1.0.0", Commit: 3}}, "v1.0.0"},
		{"a later prerelease", root, "main", []forge.Name{{Name: "v1.0.0", Commit: 3}, {Name: "v1.1.0-rc.1", Commit: 3}}, "v1.1.0-rc.1"},
		{"its own isn't called so", root, "main", []forge.Name{{Name: "v2.0.0", Commit: 3}, {Name: "v1.0.0", Commit: 3}}, "v1.0.0"},
		{"its own isn't called so at all", root, "main", []forge.Name{{Name: "v2.0.0", Commit: 3}, {Name: "v3.0.0", Commit: 0}}, "v0.0.0-SEGMENT"},
		{"of the major", root + "/v2", "main", []forge.Name{{Name: "v2.0.0", Commit: 3}, {Name: "v1.0.0", Commit: 3}, {Name: "v3.0.0", Commit: 3}}, "v2.0.0"},
		{"of the folder", root + "/sub", "main", []forge.Name{{Name: "v1.0.0", Commit: 3}, {Name: "sub/v0.3.0", Commit: 3}}, "v0.3.0"},
		{"only of the whole", root + "/sub", "main", []forge.Name{{Name: "v1.0.0", Commit: 3}}, "v0.0.0-SEGMENT"},
		{"only of the folder", root, "main", []forge.Name{{Name: "sub/v1.0.0", Commit: 3}}, "v0.0.0-SEGMENT"},
		{"a base", root, "main", []forge.Name{{Name: "v1.2.3", Commit: 0}}, "v1.2.4-0.SEGMENT"},
		{"the last base", root, "main", []forge.Name{{Name: "v1.2.3", Commit: 1}, {Name: "v1.10.9", Commit: 0}, {Name: "v1.9.0", Commit: 2}}, "v1.10.10-0.SEGMENT"},
		{"a prerelease as base", root, "main", []forge.Name{{Name: "v1.2.3", Commit: 1}, {Name: "v1.3.0-rc.1", Commit: 2}}, "v1.3.0-rc.1.0.SEGMENT"},
		{"a base that isn't before", root, "main", []forge.Name{{Name: "v1.2.3", Commit: 1}, {Name: "v1.9.0", Commit: 4}}, "v1.2.4-0.SEGMENT"},
		{"a base that is after", root, "left", []forge.Name{{Name: "v1.2.3", Commit: 0}, {Name: "v1.9.0", Commit: 3}, {Name: "v1.3.0", Commit: 2}}, "v1.2.4-0.SEGMENT"},
		{"a base that isn't called so", root, "main", []forge.Name{{Name: "v1.2.3", Commit: 0}, {Name: "v2.0.0", Commit: 1}}, "v1.2.4-0.SEGMENT"},
		{"a base of the major", root + "/v2", "main", []forge.Name{{Name: "v1.2.3", Commit: 0}, {Name: "v2.0.0", Commit: 1}, {Name: "v3.0.0", Commit: 1}}, "v2.0.1-0.SEGMENT"},
		{"a base of another major alone", root + "/v2", "main", []forge.Name{{Name: "v1.2.3", Commit: 0}, {Name: "v3.0.0", Commit: 1}}, "v2.0.0-SEGMENT"},
		{"a base of the folder", root + "/sub", "main", []forge.Name{{Name: "v1.2.3", Commit: 0}, {Name: "sub/v0.1.0", Commit: 1, Note: true}}, "v0.1.1-0.SEGMENT"},
		{"v0 and v1", root, "main", []forge.Name{{Name: "v0.9.0", Commit: 2}, {Name: "v1.0.0-rc.1", Commit: 0}}, "v1.0.0-rc.1.0.SEGMENT"},
		{"tags that are none", root, "main", []forge.Name{{Name: "v1", Commit: 3}, {Name: "v1.5.0+x", Commit: 3}, {Name: "v1.5", Commit: 3}, {Name: "1.0.0", Commit: 3}, {Name: "v1.0.1-0.20060102150405-abcdefabcdef", Commit: 3}}, "v0.0.0-SEGMENT"},
	} {
		p := branchedPlan()
		p.Tags = c.tags
		m := built(t, p)
		number := map[string]int{"main": 3, "left": 1}[c.query]
		segment := map[int]string{3: "20060102150405", 1: "20000229000001"}[number] + "-" + m.Commits[number][:12]
		info := api.Info{Version: strings.Replace(c.want, "SEGMENT", segment, 1), Id: m.Commits[number], Time: p.Commits[number].Time}
		for _, style := range []forge.Style{{}, {Objects: forge.Deltas, Refs: true}} {
			r := planned(t, p, style)
			for _, query := range []string{c.query, m.Commits[number], m.Commits[number][:12], info.Version} {
				stats(t, c.what, r, c.path, query, api.OK, info)
			}
			same(t, c.what, r, c.path, info.Version)
		}
	}
}

// P26.1: of a module without a go.mod: the last tag in the order counts, +incompatible or not; it is no base.
func TestRevisionIncompatible(t *testing.T) {
	p := forge.Plan{
		Commits:  []forge.Commit{{Files: []api.File{file("a", "")}, Time: 1136214245}, {Files: []api.File{file("b", "")}, Parents: []int{0}, Time: 1136214245}, {Files: []api.File{file("go.mod", mod(root))}, Parents: []int{1}, Time: 1136214245}},
		Tags:     []forge.Name{{Name: "v1.5.0"}, {Name: "v2.0.0"}, {Name: "v2.1.0-rc.1"}},
		Branches: []forge.Name{{Name: "first"}, {Name: "second", Commit: 1}, {Name: "third", Commit: 2}},
	}
	m := built(t, p)
	segment := func(i int) string { return "20060102150405-" + m.Commits[i][:12] }
	r := planned(t, p, forge.Style{Objects: forge.Mixed})
	stats(t, "its own", r, root, "first", api.OK, api.Info{Version: "v2.1.0-rc.1+incompatible", Id: m.Commits[0], Time: 1136214245})
	stats(t, "the next", r, root, "second", api.OK, api.Info{Version: "v1.5.1-0." + segment(1), Id: m.Commits[1], Time: 1136214245})
	stats(t, "with a go.mod", r, root, "third", api.OK, api.Info{Version: "v1.5.1-0." + segment(2), Id: m.Commits[2], Time: 1136214245})
	latest(t, "the last release", r, root, api.OK, api.Info{Version: "v2.0.0+incompatible", Id: m.Commits[0], Time: 1136214245})
}

// P26.1: a tag that leads to no commit doesn't count, for the version and for the base.
func TestRevisionBadTags(t *testing.T) {
	w, ids := chain(2)
	w.ref("refs/tags/v1.0.0", ids[0])
	for name, id := range map[string]string{"v1.5.0": strings.Repeat("0", 40), "v1.6.0": w.blob("x"), "v1.7.0": w.tag(strings.Repeat("0", 40), api.Commit)} {
		w.ref("refs/tags/"+name, id)
	}
	w.set("refs/tags/v1.8.0", "no reference")
	w.set("refs/tags/v1.9.0", "ref: refs/tags/v1.9.0\n")
	r := opened(t, w.files, root)
	stats(t, "bad tags", r, root, "main", api.OK, api.Info{Version: "v1.0.1-0.20060102150406-" + ids[1][:12], Id: ids[1], Time: 1136214246})
	lists(t, "bad tags", r, root, api.OK, "v1.0.0")
	// A commit that is another one under its name, which a tag names: no base either.
	w, ids = chain(3)
	w.ref("refs/tags/v1.0.0", ids[0])
	w.ref("refs/tags/v1.1.0", ids[1])
	w.ref("refs/heads/first", ids[0])
	w.spoil(ids[1])
	r = opened(t, w.files, root)
	fails(t, "a spoilt parent", r, root, "main", api.ErrSum)
	lists(t, "a spoilt commit", r, root, api.OK, "v1.0.0")
	stats(t, "before a spoilt commit", r, root, "first", api.OK, api.Info{Version: "v1.0.0", Id: ids[0], Time: 1136214245})
}

// P26.1: Latest: releases and prereleases, only prereleases, none.
func TestLatest(t *testing.T) {
	for _, c := range []struct {
		tags []string
		want string // empty: HEAD's
	}{
		{nil, ""},
		{[]string{"v1", "x", "v2.0.0"}, ""},
		{[]string{"v1.0.0"}, "v1.0.0"},
		{[]string{"v1.9.0", "v1.10.0", "v1.2.0"}, "v1.10.0"},
		{[]string{"v1.0.0", "v1.1.0-rc.1", "v1.2.0-beta"}, "v1.0.0"},
		{[]string{"v1.1.0-rc.1", "v1.1.0-rc.10", "v1.1.0-rc.9"}, "v1.1.0-rc.10"},
		{[]string{"v0.0.0", "v1.0.0-rc.1"}, "v0.0.0"},
		{[]string{"v1.0.0", "v2.0.0", "v3.0.0"}, "v1.0.0"},
		{[]string{"v0.1.0-pre"}, "v0.1.0-pre"},
	} {
		p := oneCommit(c.tags, file("go.mod", mod(root)))
		id := built(t, p).Commits[0]
		p.Commits = append(p.Commits, forge.Commit{Files: p.Commits[0].Files, Time: 951782400})
		m := built(t, p)
		p.Branches[0].Commit = 1
		want := api.Info{Version: c.want, Id: id, Time: 1136214245}
		if c.want == "" {
			want = api.Info{Version: "v0.0.0-20000229000000-" + m.Commits[1][:12], Id: m.Commits[1], Time: 951782400}
		}
		for _, style := range styles() {
			latest(t, fmt.Sprint(c.tags), planned(t, p, style), root, api.OK, want)
		}
		p.Head = ""
		if c.want == "" {
			latest(t, "no HEAD", planned(t, p, forge.Style{}), root, api.ErrForm, api.Info{})
		}
	}
	// Without a prerelease there may be digits and a - in nothing but the path: +incompatible is no prerelease.
	p := oneCommit([]string{"v2.0.0", "v3.0.0-rc.1", "v1.0.0"}, file("a", ""))
	latest(t, "incompatible", planned(t, p, forge.Style{}), root, api.OK, api.Info{Version: "v2.0.0+incompatible", Id: built(t, p).Commits[0], Time: 1136214245})
	p = oneCommit([]string{"v2.0.0-rc.1", "v3.0.0-rc.1", "v1.0.0-rc.1"}, file("a", ""))
	latest(t, "incompatible", planned(t, p, forge.Style{}), root, api.OK, api.Info{Version: "v3.0.0-rc.1+incompatible", Id: built(t, p).Commits[0], Time: 1136214245})
	// A listed version whose module isn't there is no latest one; HEAD's error is Latest's.
	p = oneCommit([]string{"sub/v1.0.0"}, file("a", ""))
	latest(t, "no such folder", planned(t, p, forge.Style{}), root+"/sub", api.ErrAbsent, api.Info{})
}
