package coderepo

import (
	"fmt"
	"slices"
	"strings"
	"testing"

	"cartulary/api"
	"cartulary/forge"
	"cartulary/loose"
)

// P26.1: tags of the root and of a folder, tags that aren't canonical, that are pseudo-versions, that are none.
func TestTags(t *testing.T) {
	right := []string{"v0.0.0", "v0.1.0", "v1.0.0-0.20060102150405-abcdefabcde", "v1.0.0-20060102150405", "v1.0.0-alpha", "v1.0.0-rc.1", "v1.0.0-x-y.1", "v1.0.0", "v1.2.3", "v1.9.0", "v1.10.0"}
	names := []string{
		"v1", "v1.3", "v1.4.0+x", "v01.0.0", "v1.0.0-01", "1.0.0", "V1.0.0", "v1.0.0.0", "vx", "v1.5.0+incompatible", "x/v1.6.0", "sub/v1", "sub/v1.4.0+x", "sub/x",
		"v0.0.0-20060102150405-abcdefabcdef", "v1.0.1-0.20060102150405-abcdefabcdef", "v1.0.0-rc.1.0.20060102150405-abcdefabcdef", "sub/v0.0.0-20060102150405-abcdefabcdef",
	}
	for _, v := range right {
		names = append(names, v, "sub/"+v)
	}
	slices.Reverse(names)
	p := oneCommit(names, file("sub/a", ""))
	info := api.Info{Id: built(t, p).Commits[0], Time: 1136214245}
	for _, style := range styles() {
		r := planned(t, p, style)
		lists(t, "tags", r, root, api.OK, right...)
		lists(t, "tags", r, root+"/sub", api.OK, right...)
		lists(t, "tags", r, root+"/sub/v2", api.OK)
		lists(t, "tags", r, root+"/x", api.OK)
	}
	r := planned(t, p, forge.Style{})
	for _, v := range right {
		info.Version = v
		stats(t, "a tag", r, root, v, api.OK, info)
		stats(t, "a tag", r, root+"/sub", v, api.OK, info)
	}
	// The tag of a version that isn't canonical is no tag, and the version none that is asked for.
	for _, v := range []string{"v1", "v1.3", "v1.4.0+x"} {
		refuses(t, "not canonical", r, root, v, api.ErrForm)
	}
	// What is no version at all is a revision, of Stat alone.
	info.Version = "v1.10.0"
	for _, v := range []string{"v01.0.0", "1.0.0", "vx"} {
		stats(t, "no version", r, root, v, api.OK, info)
		if s, e := r.GoMod(root, v); s != "" || e != api.ErrForm {
			t.Errorf("GoMod(%s): %q, %d", v, s, e)
		}
	}
	// A tag that is a pseudo-version isn't looked up: its digits are.
	refuses(t, "a pseudo-version's tag", r, root, "v0.0.0-20060102150405-abcdefabcdef", api.ErrAbsent)
}

// P26.1: how versions are called: v0 and v1, others with and without a go.mod, of the root and of a folder, of a major.
func TestCalled(t *testing.T) {
	tags := []string{"v0.1.0", "v1.0.0", "v2.0.0", "v2.1.0-rc.1", "v10.0.0", "sub/v0.1.0", "sub/v1.0.0", "sub/v2.0.0", "sub/v10.0.0"}
	for _, c := range []struct {
		what, path string
		files      []api.File
		want       []string
	}{
		{"no go.mod", root, []api.File{file("a", "")}, []string{"v0.1.0", "v1.0.0", "v2.0.0+incompatible", "v2.1.0-rc.1+incompatible", "v10.0.0+incompatible"}},
		{"a go.mod", root, []api.File{file("go.mod", mod(root))}, []string{"v0.1.0", "v1.0.0"}},
		{"a go.mod of v2", root, []api.File{file("go.mod", mod(root+"/v2"))}, nil},
		{"a go.mod of v2 in v2", root, []api.File{file("v2/go.mod", mod(root+"/v2"))}, []string{"v0.1.0", "v1.0.0", "v2.0.0+incompatible", "v2.1.0-rc.1+incompatible", "v10.0.0+incompatible"}},
		{"below, no go.mod", root + "/sub", []api.File{file("sub/a", "")}, []string{"v0.1.0", "v1.0.0"}},
		{"below, a go.mod", root + "/sub", []api.File{file("sub/go.mod", mod(root+"/sub"))}, []string{"v0.1.0", "v1.0.0"}},
		{"v2", root + "/v2", []api.File{file("v2/go.mod", mod(root+"/v2"))}, []string{"v2.0.0", "v2.1.0-rc.1"}},
		{"v10", root + "/v10", []api.File{file("go.mod", mod(root+"/v10"))}, []string{"v10.0.0"}},
		{"v3", root + "/v3", []api.File{file("go.mod", mod(root+"/v3"))}, nil},
		{"below, v2", root + "/sub/v2", []api.File{file("sub/go.mod", mod(root+"/sub/v2"))}, []string{"v2.0.0"}},
		{"below, v10", root + "/sub/v10", []api.File{file("sub/v10/go.mod", mod(root+"/sub/v10"))}, []string{"v10.0.0"}},
	} {
		p := oneCommit(tags, c.files...)
		r := planned(t, p, forge.Style{Objects: forge.Mixed, Refs: true})
		lists(t, c.what, r, c.path, api.OK, c.want...)
		for _, v := range []string{"v0.1.0", "v1.0.0", "v2.0.0", "v2.1.0-rc.1", "v10.0.0"} {
			for _, query := range []string{v, v + Incompatible} {
				if slices.Contains(c.want, query) {
					stats(t, c.what, r, c.path, query, api.OK, api.Info{Version: query, Id: built(t, p).Commits[0], Time: 1136214245})
				} else if x, e := r.Stat(c.path, query); e == api.OK {
					t.Errorf("%s: Stat(%s, %s): %v", c.what, c.path, query, x)
				}
				same(t, c.what, r, c.path, query)
			}
		}
	}
	r := planned(t, oneCommit(tags, file("a", "")), forge.Style{})
	for query, want := range map[string]api.Errno{
		"v2.0.0": api.ErrForm, "v1.0.0+incompatible": api.ErrForm, "v0.1.0+incompatible": api.ErrForm, "v2.0.0+incompatible+incompatible": api.ErrForm, "v9.0.0+incompatible+incompatible": api.ErrForm,
		"v2.0.0+x": api.ErrForm, "v2.0.0+incompatible.x": api.ErrForm, "v2.0.0-incompatible": api.ErrAbsent, "v2+incompatible": api.ErrForm, "v3.0.0+incompatible": api.ErrAbsent, "v2.0.0+Incompatible": api.ErrForm,
	} {
		refuses(t, "no go.mod", r, root, query, want)
	}
	if s, e := r.GoMod(root, "+incompatible"); s != "" || e != api.ErrForm {
		t.Errorf("GoMod(+incompatible): %q, %d", s, e)
	}
	if s, e := r.GoMod(root, ""); s != "" || e != api.ErrForm {
		t.Errorf("GoMod of nothing: %q, %d", s, e)
	}
}

// P26.1: tags of tags: five on one another lead to the commit, six don't (the ninth example of the whole); tags of other things.
func TestTagsOfTags(t *testing.T) {
	w := &world{}
	c := w.commit(w.tree(w.plain("go.mod", mod(root))), 1136214245)
	id := c
	var versions []string
	for n := range 7 {
		version := fmt.Sprintf("v1.%d.0", n)
		w.ref("refs/tags/"+version, id)
		if n <= 5 {
			versions = append(versions, version)
		}
		id = w.tag(id, api.Commit)
	}
	w.ref("refs/tags/v0.1.0", w.tag(w.tree(), api.Tree))
	w.ref("refs/tags/v0.2.0", w.blob("x"))
	w.ref("refs/tags/v0.3.0", strings.Repeat("0", 40))
	w.ref("refs/tags/v0.4.0", w.tag(strings.Repeat("1", 40), api.Commit))
	w.ref("refs/tags/v0.5.0", w.tag(c, api.Blob))
	w.set("refs/tags/v0.6.0", "no reference")
	w.set("refs/tags/v0.7.0", "ref: refs/tags/v1.0.0\n")
	w.set("refs/tags/v0.8.0", "ref: refs/tags/none\n")
	w.set("refs/tags/v0.9.0", "ref: refs/tags/v0.9.0\n")
	w.set("refs/tags/v0.10.0", "ref: HEAD\n")
	w.ref("HEAD", c)
	r := opened(t, w.files, root)
	lists(t, "tags of tags", r, root, api.OK, append([]string{"v0.5.0", "v0.7.0", "v0.10.0"}, versions...)...)
	for _, version := range versions {
		stats(t, "tags of tags", r, root, version, api.OK, api.Info{Version: version, Id: c, Time: 1136214245})
	}
	for version, want := range map[string]api.Errno{"v1.6.0": api.ErrCycle, "v0.1.0": api.ErrKind, "v0.2.0": api.ErrKind, "v0.3.0": api.ErrAbsent, "v0.4.0": api.ErrAbsent, "v0.6.0": api.ErrText, "v0.8.0": api.ErrAbsent, "v0.9.0": api.ErrCycle, "v0.11.0": api.ErrAbsent} {
		refuses(t, "of no commit", r, root, version, want)
	}
	// The last of the tags that lead here.
	stats(t, "tags of tags", r, root, "HEAD", api.OK, api.Info{Version: "v1.5.0", Id: c, Time: 1136214245})
	latest(t, "tags of tags", r, root, api.OK, api.Info{Version: "v1.5.0", Id: c, Time: 1136214245})
}

// P26.1: a folder whose tags can be no reference's names.
func TestTagNames(t *testing.T) {
	p := oneCommit([]string{"v1.0.0", "a/v1.0.0"}, file("a.lock/x", ""), file("a/x", ""))
	r := planned(t, p, forge.Style{Refs: true})
	lists(t, "a folder with no reference's name", r, root+"/a.lock", api.OK)
	refuses(t, "a folder with no reference's name", r, root+"/a.lock", "v1.0.0", api.ErrForm)
	refuses(t, "a version with no reference's name", r, root, "v1.0.0-a.lock", api.ErrForm)
	id := built(t, p).Commits[0]
	stats(t, "a folder with no reference's name", r, root+"/a.lock", "main", api.OK, api.Info{Version: "v0.0.0-20060102150405-" + id[:12], Id: id, Time: 1136214245})
	lists(t, "another folder", r, root+"/a", api.OK, "v1.0.0")
}

// branchedPlan: 0, then 1 and 2 on it, 3 on both, 4 alone.
func branchedPlan() forge.Plan {
	all := []api.File{file("go.mod", mod(root)), file("sub/x", ""), file("v2/go.mod", mod(root+"/v2"))}
	return forge.Plan{
		Commits:  []forge.Commit{{Time: 951782400, Files: all}, {Time: 951782401, Files: all, Parents: []int{0}}, {Time: 951782402, Files: all, Parents: []int{0}}, {Time: 1136214245, Files: all, Parents: []int{1, 2}}, {Time: 1136214245, Files: all}},
		Branches: []forge.Name{{Name: "main", Commit: 3}, {Name: "alone", Commit: 4}, {Name: "left", Commit: 1}},
		Head:     "main",
	}
}

// P26.1: pseudo-versions: with and without a base, with another second, of a base that isn't before or isn't there, of no commit.
func TestPseudo(t *testing.T) {
	p := branchedPlan()
	p.Tags = []forge.Name{{Name: "v1.2.3", Commit: 1}, {Name: "v1.3.0-rc.1", Commit: 2, Note: true}, {Name: "v1.9.0", Commit: 4}, {Name: "v2.0.5", Commit: 0}, {Name: "sub/v0.1.0", Commit: 2}, {Name: "v0.5.0", Commit: 3}}
	m := built(t, p)
	at := func(i int) string { return "-20060102150405-" + m.Commits[i][:12] }
	for _, style := range styles() {
		r := planned(t, p, style)
		right := func(path string, i int, version string) {
			t.Helper()
			stats(t, fmt.Sprint(style), r, path, version, api.OK, api.Info{Version: version, Id: m.Commits[i], Time: 1136214245})
			same(t, fmt.Sprint(style), r, path, version)
		}
		wrong := func(path, version string, want api.Errno) {
			t.Helper()
			refuses(t, fmt.Sprint(style), r, path, version, want)
		}
		dot := func(i int) string { return "0." + at(i)[1:] }
		// No base: any major that the module may have, whatever tags there are.
		right(root, 3, "v0.0.0"+at(3))
		right(root, 3, "v1.0.0"+at(3))
		right(root+"/v2", 3, "v2.0.0"+at(3))
		right(root+"/sub", 3, "v0.0.0"+at(3))
		right(root+"/sub", 3, "v1.0.0"+at(3))
		right(root, 4, "v0.0.0"+at(4))
		wrong(root, "v2.0.0"+at(3), api.ErrForm)
		wrong(root, "v2.0.0"+at(3)+Incompatible, api.ErrForm)
		wrong(root, "v0.0.0"+at(3)+Incompatible, api.ErrForm)
		wrong(root+"/v2", "v1.0.0"+at(3), api.ErrForm)
		wrong(root+"/v2", "v3.0.0"+at(3), api.ErrForm)
		wrong(root+"/none", "v0.0.0"+at(3), api.ErrAbsent)
		// Bases whose tags are before: also the commit's own.
		right(root, 3, "v1.2.4-"+dot(3))
		right(root, 3, "v1.3.0-rc.1."+dot(3))
		right(root, 3, "v0.5.1-"+dot(3))
		right(root+"/v2", 3, "v2.0.6-"+dot(3))
		right(root+"/sub", 3, "v0.1.1-"+dot(3))
		right(root, 4, "v1.9.1-"+dot(4))
		// Bases that aren't before, that aren't there, of another folder.
		wrong(root, "v1.9.1-"+dot(3), api.ErrAbsent)
		wrong(root, "v1.2.4-"+dot(4), api.ErrAbsent)
		wrong(root, "v1.2.5-"+dot(3), api.ErrAbsent)
		wrong(root, "v1.3.0-rc.2."+dot(3), api.ErrAbsent)
		wrong(root, "v0.1.1-"+dot(3), api.ErrAbsent)
		wrong(root+"/sub", "v0.5.1-"+dot(3), api.ErrAbsent)
		wrong(root+"/v2", "v1.2.4-"+dot(3), api.ErrForm)
		// Another second, ahead of what the base is.
		for _, stamp := range []string{"20060102150406", "20060102150404", "00010101000000", "99991231235959"} {
			wrong(root, "v0.0.0-"+stamp+"-"+m.Commits[3][:12], api.ErrSum)
			wrong(root, "v1.9.1-0."+stamp+"-"+m.Commits[3][:12], api.ErrSum)
			wrong(root, "v1.2.5-0."+stamp+"-"+m.Commits[3][:12], api.ErrSum)
			// What it is called counts ahead of the second.
			wrong(root, "v2.0.0-"+stamp+"-"+m.Commits[3][:12], api.ErrForm)
		}
		// No commit: none of that name; a tree, a Blob, a tag.
		wrong(root, "v0.0.0-20060102150405-ffffffffffff", api.ErrAbsent)
		wrong(root, "v9.0.0-20060102150405-ffffffffffff", api.ErrAbsent)
		wrong(root, "v0.0.0-20060102150405-"+m.Tags[1][:12], api.ErrKind)
		for i, o := range m.Objects {
			if o.Kind != api.Commit {
				wrong(root, "v0.0.0-20060102150405-"+idOf(m.Objects[i])[:12], api.ErrKind)
			}
		}
		// What is no pseudo-version is looked for as a tag.
		wrong(root, "v1.2.0-"+dot(3), api.ErrAbsent)
		wrong(root, "v0.0.0-20061302150405-"+m.Commits[3][:12], api.ErrAbsent)
		wrong(root, "v0.0.0-20060102150405-"+m.Commits[3][:11], api.ErrAbsent)
		wrong(root, "v0.0.0-20060102150405-"+m.Commits[3][:13], api.ErrAbsent)
		wrong(root, "v0.0.0-20060102150405-"+strings.ToUpper(m.Commits[3][:12]), api.ErrAbsent)
		wrong(root, "v0.0.0"+at(3)+"+x", api.ErrForm)
	}
}

// idOf: an object's name.
func idOf(o api.Object) string {
	file, _ := loose.Write(o)
	return strings.ReplaceAll(strings.TrimPrefix(file.Path, "objects/"), "/", "")
}

// P26.1: pseudo-versions of a module without a go.mod, from v2 on.
func TestPseudoIncompatible(t *testing.T) {
	p := forge.Plan{
		Commits:  []forge.Commit{{Files: []api.File{file("a", "")}}, {Files: []api.File{file("a", "b")}, Parents: []int{0}, Time: 1136214245}},
		Tags:     []forge.Name{{Name: "v2.0.9"}, {Name: "v3.0.0-rc.1"}},
		Branches: []forge.Name{{Name: "main", Commit: 1}},
	}
	m := built(t, p)
	segment := "20060102150405-" + m.Commits[1][:12]
	r := planned(t, p, forge.Style{Objects: forge.Deltas, Refs: true})
	for _, version := range []string{"v2.0.10-0." + segment + Incompatible, "v3.0.0-rc.1.0." + segment + Incompatible, "v2.0.0-" + segment + Incompatible, "v7.0.0-" + segment + Incompatible, "v0.0.0-" + segment} {
		stats(t, "incompatible", r, root, version, api.OK, api.Info{Version: version, Id: m.Commits[1], Time: 1136214245})
		has(t, "incompatible", r, root, version, "a", "b")
	}
	for version, want := range map[string]api.Errno{
		"v2.0.10-0." + segment: api.ErrForm, "v2.0.0-" + segment: api.ErrForm, "v2.0.9-0." + segment + Incompatible: api.ErrAbsent, "v1.0.0-" + segment + Incompatible: api.ErrForm,
		"v2.0.10-0." + segment + Incompatible + Incompatible: api.ErrForm, "v2.0.10-0." + segment + "+x": api.ErrForm,
	} {
		refuses(t, "incompatible", r, root, version, want)
	}
	// No tag is called as it is here: there is no base.
	stats(t, "incompatible", r, root, "main", api.OK, api.Info{Version: "v0.0.0-" + segment, Id: m.Commits[1], Time: 1136214245})
}

// P26.1: digits that several names begin with, ahead of all that is asked of the commit; only those of the twelve count.
func TestPseudoDouble(t *testing.T) {
	w := &world{}
	c := w.commit(w.tree(w.plain("go.mod", mod(root))), 1136214245)
	version := "v0.0.0-20060102150405-" + c[:12]
	w.ref("refs/heads/main", c)
	// A file under another name that begins alike, whatever it is.
	twin := func(n int) string {
		other := "0"
		if c[n] == '0' {
			other = "1"
		}
		return c[:n] + other + strings.Repeat("0", 39-n)
	}
	for n, want := range map[int]api.Errno{11: api.OK, 12: api.ErrDouble, 20: api.ErrDouble, 39: api.ErrDouble} {
		path, _ := loose.Path(twin(n))
		r := opened(t, append(slices.Clone(w.files), file(path, "no object")), root)
		if want == api.OK {
			stats(t, "a twin", r, root, version, api.OK, api.Info{Version: version, Id: c, Time: 1136214245})
		} else {
			refuses(t, "a twin", r, root, version, want)
			refuses(t, "a twin", r, root+"/none", version, want)
			refuses(t, "a twin", r, root, "v9"+version[2:], want)
		}
		// Stat of the branch tells that version all the same.
		stats(t, "a twin", r, root, "main", api.OK, api.Info{Version: version, Id: c, Time: 1136214245})
	}
}

// chain: a world of n commits on one another with a go.mod, the last one in refs/heads/main; their names.
func chain(n int) (*world, []string) {
	w := &world{}
	id := w.tree(w.plain("go.mod", mod(root)))
	var ids []string
	for i := range n {
		ids = append(ids, w.commit(id, 1136214245+i, ids[max(0, i-1):i]...))
	}
	w.ref("refs/heads/main", ids[n-1])
	return w, ids
}

// P26.1: 400 commits of a walk, and one more.
func TestBudget(t *testing.T) {
	w, ids := chain(401)
	w.ref("refs/tags/v1.0.0", ids[1])
	w.ref("refs/tags/v1.1.0", ids[0])
	w.ref("refs/heads/four", ids[399])
	r := opened(t, w.files, root)
	first := func(version, id string, time int) api.Info { return api.Info{Version: version, Id: id, Time: time} }
	fails(t, "401 commits", r, root, "main", api.ErrBudget)
	four := "v1.1.1-0.20060102151044-" + ids[399][:12]
	stats(t, "400 commits", r, root, "four", api.OK, first(four, ids[399], 1136214245+399))
	stats(t, "400 commits", r, root, four, api.OK, first(four, ids[399], 1136214245+399))
	last := "20060102151045-" + ids[400][:12]
	stats(t, "401 commits, no base", r, root, "v0.0.0-"+last, api.OK, first("v0.0.0-"+last, ids[400], 1136214245+400))
	refuses(t, "401 commits, a base", r, root, "v1.1.1-0."+last, api.ErrBudget)
	refuses(t, "401 commits, no such base", r, root, "v1.1.2-0."+last, api.ErrAbsent)
	latest(t, "401 commits", r, root, api.OK, first("v1.1.0", ids[0], 1136214245))
	// With a tag of its own the commit's ancestors aren't asked.
	w.ref("refs/tags/v1.2.0", ids[400])
	r = opened(t, w.files, root)
	stats(t, "401 commits and a tag", r, root, "main", api.OK, first("v1.2.0", ids[400], 1136214245+400))
	// A parent that is wanting: nothing is told of what may be before.
	w, ids = chain(3)
	w.lose(ids[0])
	r = opened(t, w.files, root)
	fails(t, "a parent is wanting", r, root, "main", api.ErrAbsent)
	w.ref("refs/tags/v1.0.0", ids[1])
	r = opened(t, w.files, root)
	fails(t, "a parent is wanting", r, root, "main", api.ErrAbsent)
	stats(t, "a parent is wanting", r, root, "v1.0.0", api.OK, first("v1.0.0", ids[1], 1136214246))
	refuses(t, "a parent is wanting", r, root, "v1.0.1-0.20060102150407-"+ids[2][:12], api.ErrAbsent)
}

// P26.1: majors and versions with very many bytes.
func TestLong(t *testing.T) {
	digits := "2" + strings.Repeat("0", 120)
	path := root + "/v" + digits
	r := planned(t, oneCommit(nil, file("go.mod", mod(path))), forge.Style{})
	lists(t, "a long major", r, path, api.OK)
	fails(t, "a long major", r, path, "main", api.ErrForm)
	latest(t, "a long major", r, path, api.ErrForm, api.Info{})
	// A base whose pseudo-version would have too many bytes.
	long := "v1.0.0-" + strings.Repeat("x", 80)
	p := branchedPlan()
	p.Tags = []forge.Name{{Name: long}}
	r = planned(t, p, forge.Style{})
	fails(t, "a long base", r, root, "main", api.ErrBig)
	lists(t, "a long base", r, root, api.OK, long)
	// With +incompatible behind it, this has too many bytes for a version, but the module at it is there.
	longer := "v2.0.0-" + strings.Repeat("x", 90)
	p = oneCommit([]string{longer, "v" + strings.Repeat("9", 90) + ".0.0"}, file("a", ""))
	r = planned(t, p, forge.Style{})
	huge := "v" + strings.Repeat("9", 90) + ".0.0" + Incompatible
	lists(t, "a long tag", r, root, api.OK, longer+Incompatible, huge)
	goMods(t, "a long tag", r, root, longer+Incompatible, mod(root))
	has(t, "a long tag", r, root, longer+Incompatible, "a", "")
	fails(t, "a long tag", r, root, longer+Incompatible, api.ErrForm)
	latest(t, "a long tag", r, root, api.ErrForm, api.Info{})
	// It is a prerelease all the same.
	p = oneCommit([]string{longer, "v1.0.0"}, file("a", ""))
	latest(t, "a long prerelease", planned(t, p, forge.Style{}), root, api.OK, api.Info{Version: "v1.0.0", Id: built(t, p).Commits[0], Time: 1136214245})
	// Queries of very many bytes.
	for _, query := range []string{strings.Repeat("a", 100000), "v1.0.0-" + strings.Repeat("a", 100000), strings.Repeat("a/", 100000)} {
		fails(t, "a long query", r, root, query, api.ErrForm)
		fails(t, "a long path", r, query, "main", api.ErrForm)
	}
}
