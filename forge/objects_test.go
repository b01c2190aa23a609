package forge

import (
	"fmt"
	"math/rand"
	"slices"
	"strings"
	"testing"

	"cartulary/api"
	"cartulary/object"
)

// makes holds Objects against the document's words: all objects, each once, each behind those whose names stand in it.
func makes(t *testing.T, what string, p Plan) Made {
	t.Helper()
	m, e := Objects(p)
	if e != api.OK {
		t.Fatalf("%s: Objects: %d", what, e)
	}
	w := objectsByWords(p)
	if !slices.Equal(m.Commits, w.commits) || !slices.Equal(m.Tags, w.tags) {
		t.Errorf("%s: commits %v, tags %v, not %v, %v", what, m.Commits, m.Tags, w.commits, w.tags)
	}
	if len(m.Objects) != len(w.objects) {
		t.Errorf("%s: %d objects, not %d", what, len(m.Objects), len(w.objects))
	}
	seen := map[string]int{}
	for _, o := range m.Objects {
		for _, id := range standsIn(o) {
			if seen[id] == 0 {
				t.Errorf("%s: %s stands in an object ahead of it", what, id)
			}
		}
		id, e := object.Id(o)
		seen[id]++
		if want, found := w.objects[id]; !found || want != o || e != api.OK || seen[id] > 1 {
			t.Errorf("%s: the object %s (%d, %.80q), %d times, %d", what, id, o.Kind, o.Data, seen[id], e)
		}
	}
	return m
}

// kinds: how many objects of each kind there are.
func kinds(l []api.Object) [5]int {
	var n [5]int
	for _, o := range l {
		n[o.Kind]++
	}
	return n
}

// P25.1: the examples of the document, and names that git tells.
func TestExamples(t *testing.T) {
	if l, e := Build(Plan{}, Style{Objects: Apart}); len(l) != 0 || e != api.OK {
		t.Errorf("Build of nothing: %v, %d", l, e)
	}
	if l, e := Build(Plan{}, Style{Objects: Apart, Refs: true}); len(l) != 1 || l[0].Path != "packed-refs" || e != api.OK {
		t.Errorf("Build of nothing, packed: %v, %d", l, e)
	}
	m := makes(t, "a commit without files", commits(1))
	if len(m.Objects) != 2 || m.Objects[0] != (api.Object{Kind: api.Tree}) || !strings.HasPrefix(m.Objects[1].Data, "tree 4b825dc642cb6eb9a060e54bf8d69288fbee4904\n") {
		t.Errorf("a commit without files: %v", m)
	}
	checks(t, "a and a/b", files("a", "a/b"), api.ErrForm)
	both(t, "v1 and v1/x", names("v1", "v1/x"), api.ErrForm)
	checks(t, "a parent that isn't ahead", Plan{Commits: []Commit{{Parents: []int{0}}}}, api.ErrForm)
	checks(t, "no branch main", Plan{Commits: make([]Commit, 1), Head: "main"}, api.ErrForm)
}

// gitPlan: a plan of which git was asked.
func gitPlan() Plan {
	const root = "example.com/repo.git"
	mod, two := api.File{Path: "go.mod", Data: "module " + root + "\n"}, api.File{Path: "go.mod", Data: "module " + root + "/v2\n"}
	license := api.File{Path: "LICENSE", Data: "free\n"}
	return Plan{
		Commits: []Commit{
			{Files: []api.File{{Path: "a.go", Data: "package a\n"}}, Time: 1100000000, Message: "none\n"},
			{Files: []api.File{{Path: "a.go", Data: "package a\n"}, license, mod}, Time: 1136214245, Message: "one\n", Parents: []int{0}},
			{Files: []api.File{{Path: "a.go", Data: "package b\n"}, license, mod, {Path: "sub/go.mod", Data: "module " + root + "/sub\n"}, {Path: "sub/s.go", Data: "package sub\n"}, {Path: "sub/deep/x/y.go", Data: "package y\n"}, {Path: "sub.x/z", Data: "z"}, {Path: "vendor/x/y.go", Data: "package v\n"}}, Parents: []int{1}, Time: 1136214300, Message: "two\n"},
			{Files: []api.File{mod, license}, Parents: []int{2}, Time: 1136214400, Message: "x\n"},
			{Files: []api.File{two, {Path: "b.go", Data: "package b\n"}}, Parents: []int{1, 2}, Time: 1136214500, Message: "v2\n"},
			{Files: []api.File{two, {Path: "b.go", Data: "package c\n"}}, Parents: []int{4}, Time: 1136214600, Message: "v2 on\n"},
		},
		Tags:     []Name{{Name: "v2.0.0", Commit: 0}, {Name: "v1.0.0", Commit: 1}, {Name: "v1.1.0-rc.1", Commit: 2, Note: true}, {Name: "sub/v0.2.0", Commit: 2}, {Name: "v2.1.0", Commit: 4, Note: true}},
		Branches: []Name{{Name: "main", Commit: 3}, {Name: "two", Commit: 5}, {Name: "none", Commit: 0}},
		Head:     "main",
	}
}

// P25.1: git commit-tree and git mktag make the same names (and git fsck --strict finds no fault with any of Build's styles).
func TestGit(t *testing.T) {
	m := makes(t, "git's plan", gitPlan())
	if want := []string{"6f0f61d98c9126cc5e9b23385a05a1c7a8f0a0a3", "aaf2714c6823c2ce70c14b05974c9a034075f397", "da410463c98d7091a622a84a8c7b2202cacdd245", "e8b9b802eb17b4142b35d5a613c0b30dd09bcf33", "a0506b9338187aed128eade072670ff8bfe4c89f", "30d6641c970709e9669f8aa838408338851bbec3"}; !slices.Equal(m.Commits, want) {
		t.Errorf("commits %v", m.Commits)
	}
	if want := []string{m.Commits[0], m.Commits[1], "a111c82c156cb63949351efb205b88e457ab468b", m.Commits[2], "1940775f0b75ae354ca3cb342d74f2cd6e206b7e"}; !slices.Equal(m.Tags, want) {
		t.Errorf("tags %v", m.Tags)
	}
	if n := kinds(m.Objects); n != [5]int{0, 6, 12, 11, 2} {
		t.Errorf("kinds %v", n)
	}
	builds(t, "git's plan", gitPlan())
}

// P25.1: equal objects are one: files with the same bytes, folders alike, commits with the same files, equal commits.
func TestEqual(t *testing.T) {
	one := Commit{Files: []api.File{{Path: "a", Data: "x"}, {Path: "b", Data: "x"}, {Path: "d/a", Data: "x"}, {Path: "d/b", Data: "x"}, {Path: "e/d/b", Data: "x"}, {Path: "e/d/a", Data: "x"}}, Time: 7}
	m := makes(t, "alike", Plan{Commits: []Commit{one}})
	// One Blob; the trees d and e/d are one; e; the whole.
	if n := kinds(m.Objects); n != [5]int{0, 1, 3, 1, 0} {
		t.Errorf("alike: kinds %v", n)
	}
	later := one
	later.Time = 8
	turned := one
	turned.Files = slices.Clone(one.Files)
	slices.Reverse(turned.Files)
	p := Plan{Commits: []Commit{one, later, turned}, Tags: []Name{{Name: "a", Note: true}, {Name: "b", Commit: 2, Note: true}, {Name: "c", Commit: 2}}}
	m = makes(t, "equal commits", p)
	if n := kinds(m.Objects); n != [5]int{0, 2, 3, 1, 2} || m.Commits[0] != m.Commits[2] || m.Commits[0] == m.Commits[1] {
		t.Errorf("equal commits: kinds %v, %v", n, m.Commits)
	}
	if m.Tags[0] == m.Tags[1] || m.Tags[2] != m.Commits[0] {
		t.Errorf("equal commits: tags %v", m.Tags)
	}
	builds(t, "equal commits", p)
	// A file whose bytes are those of a tree is a Blob all the same.
	m = makes(t, "an empty file beside an empty tree", Plan{Commits: []Commit{{}, {Files: []api.File{{Path: "a"}}}}})
	if n := kinds(m.Objects); n != [5]int{0, 2, 2, 1, 0} {
		t.Errorf("an empty file: kinds %v", n)
	}
	// Commits that differ in their parents' order alone are two.
	m = makes(t, "parents in two orders", Plan{Commits: []Commit{{}, {Time: 1}, {Parents: []int{0, 1}}, {Parents: []int{1, 0}}, {Parents: []int{1}}}})
	if n := kinds(m.Objects); n[api.Commit] != 5 {
		t.Errorf("parents in two orders: kinds %v", n)
	}
}

// P25.1: folders in folders, as deep as they may be, and names about the slash, in whatever order the files are handed in.
func TestFolders(t *testing.T) {
	p := files(strings.Repeat("d/", 15)+"f", strings.Repeat("d/", 14)+"f", "d/f", "e", "sub/a", "sub.x", "sub-x/a", "sub0", "sub/b/c", "sub!", "sub~/x", "A/b", "a/B")
	want := makes(t, "folders", p)
	for range 20 {
		c := p.Commits[0].Files
		rand.New(rand.NewSource(int64(len(c)))).Shuffle(len(c), func(i, k int) { c[i], c[k] = c[k], c[i] })
		if m := makes(t, "folders in another order", p); !slices.Equal(m.Commits, want.Commits) {
			t.Errorf("in another order: %v, not %v", m.Commits, want.Commits)
		}
	}
	builds(t, "folders", p)
}

// P25.1: the greatest plan's parts: 60 files, a file of 65000 bytes, the greatest Message of 16 parents.
func TestGreatest(t *testing.T) {
	p := commits(17)
	last := &p.Commits[16]
	for i := range 16 {
		p.Commits[i].Time = i
		last.Parents = append(last.Parents, 15-i)
	}
	last.Message, last.Time = strings.Repeat("\n", 32500), 253402300799
	for i := range 60 {
		last.Files = append(last.Files, api.File{Path: fmt.Sprintf("%d/%s", i, strings.Repeat("n", 100)), Data: fmt.Sprint(i)})
	}
	last.Files[59].Data = strings.Repeat("y", 65000)
	p.Tags = []Name{{Name: strings.Repeat("t", 100), Commit: 16, Note: true}}
	p.Branches = []Name{{Name: strings.Repeat("b", 100), Commit: 16}}
	p.Head = p.Branches[0].Name
	makes(t, "the greatest", p)
	builds(t, "the greatest", p)
}

// P25.1, P25.2: many plans against the document's words.
func TestRandom(t *testing.T) {
	random := rand.New(rand.NewSource(25))
	right := 0
	for range 200 {
		p := randomPlan(random)
		want := checkByWords(p)
		checks(t, fmt.Sprintf("%+v", p), p, want)
		if want == api.OK {
			right++
			makes(t, fmt.Sprintf("%+v", p), p)
			builds(t, fmt.Sprintf("%+v", p), p)
		}
	}
	if right < 100 || right > 195 {
		t.Errorf("%d right plans", right)
	}
}
