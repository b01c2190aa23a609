package coderepo

import (
	"fmt"
	"math"
	"slices"
	"strings"
	"testing"

	"cartulary/api"
	"cartulary/forge"
	"cartulary/snap"
	"cartulary/zip"
)

// styles: all in which a plan can be built.
func styles() []forge.Style {
	var l []forge.Style
	for objects := range 4 {
		l = append(l, forge.Style{Objects: objects}, forge.Style{Objects: objects, Refs: true})
	}
	return l
}

// built: a plan's objects and names.
func built(t *testing.T, p forge.Plan) forge.Made {
	t.Helper()
	m, e := forge.Objects(p)
	if e != api.OK {
		t.Fatalf("Objects(%+v): %d", p, e)
	}
	return m
}

// threePlan: three commits on one another, with tags of the first two.
func threePlan() forge.Plan {
	return forge.Plan{
		Commits: []forge.Commit{
			{Files: []api.File{file("go.mod", mod(root)), file("a.go", "package a\n")}, Time: 1136214245},
			{Files: []api.File{file("a.go", "package b\n"), file("go.mod", mod(root)), file("sub/go.mod", mod(root+"/sub")), file("sub/s.go", "package s\n"), file("LICENSE", "free\n")}, Parents: []int{0}, Time: 1136214300},
			{Files: []api.File{file("go.mod", mod(root))}, Parents: []int{1}, Time: 1136214400, Message: "x\n"},
		},
		Tags:     []forge.Name{{Name: "v1.0.0", Commit: 0}, {Name: "v1.1.0", Commit: 1, Note: true}, {Name: "sub/v0.2.0", Commit: 1}},
		Branches: []forge.Name{{Name: "main", Commit: 2}},
		Head:     "main",
	}
}

// P26.1: the examples of the chapter, and the first, second and fifth of the whole, in all styles (the sixth).
func TestExamples(t *testing.T) {
	p := threePlan()
	m := built(t, p)
	last := api.Info{Version: "v1.1.1-0.20060102150640-" + m.Commits[2][:12], Id: m.Commits[2], Time: 1136214400}
	first, second := api.Info{Version: "v1.0.0", Id: m.Commits[0], Time: 1136214245}, api.Info{Version: "v1.1.0", Id: m.Commits[1], Time: 1136214300}
	for _, style := range styles() {
		r, what := planned(t, p, style), fmt.Sprint(style)
		lists(t, what, r, root, api.OK, "v1.0.0", "v1.1.0")
		lists(t, what, r, root+"/sub", api.OK, "v0.2.0")
		lists(t, what, r, root+"/v2", api.OK)
		stats(t, what, r, root, "v1.0.0", api.OK, first)
		stats(t, what, r, root, "v1.1.0", api.OK, second)
		stats(t, what, r, root, "main", api.OK, last)
		stats(t, what, r, root, last.Version, api.OK, last)
		latest(t, what, r, root, api.OK, second)
		goMods(t, what, r, root, "v1.0.0", mod(root))
		goMods(t, what, r, root+"/sub", "v0.2.0", mod(root+"/sub"))
		has(t, what, r, root, "v1.0.0", "a.go", "package a\n", "go.mod", mod(root))
		has(t, what, r, root, "v1.1.0", "LICENSE", "free\n", "a.go", "package b\n", "go.mod", mod(root))
		has(t, what, r, root+"/sub", "v0.2.0", "LICENSE", "free\n", "go.mod", mod(root+"/sub"), "s.go", "package s\n")
		s, e := r.Zip(root, "v1.0.0")
		if l, f := zip.Read(s); e != api.OK || f != api.OK || len(l) != 2 || l[1].Path != "example.com/repo@v1.0.0/go.mod" {
			t.Errorf("%s: Zip: %v, %d, %d", what, l, e, f)
		}
	}
}

// P26.1: the third and fourth example of the whole, and the second of the chapter.
func TestExamplesOfTwo(t *testing.T) {
	p := forge.Plan{
		Commits:  []forge.Commit{{Files: []api.File{file("a.go", "")}, Time: 951782400}, {Files: []api.File{file("go.mod", mod(root+"/v2"))}, Parents: []int{0}}},
		Tags:     []forge.Name{{Name: "v2.0.0"}, {Name: "v2.1.0", Commit: 1}},
		Branches: []forge.Name{{Name: "main"}},
	}
	m := built(t, p)
	r := planned(t, p, forge.Style{})
	lists(t, "without a go.mod", r, root, api.OK, "v2.0.0+incompatible")
	lists(t, "with one", r, root+"/v2", api.OK, "v2.1.0")
	stats(t, "without a go.mod", r, root, "v2.0.0+incompatible", api.OK, api.Info{Version: "v2.0.0+incompatible", Id: m.Commits[0], Time: 951782400})
	refuses(t, "without a go.mod", r, root, "v2.0.0", api.ErrForm)
	refuses(t, "with one", r, root, "v2.1.0", api.ErrForm)
	refuses(t, "with one", r, root, "v2.1.0+incompatible", api.ErrForm)
	stats(t, "with one", r, root+"/v2", "v2.1.0", api.OK, api.Info{Version: "v2.1.0", Id: m.Commits[1]})
	p.Tags = nil
	stats(t, "no tag at all", planned(t, p, forge.Style{}), root, "main", api.OK, api.Info{Version: "v0.0.0-20000229000000-" + m.Commits[0][:12], Id: m.Commits[0], Time: 951782400})
}

// goPlan: a plan of whose repository (built with deltas and packed references) the go command was asked.
func goPlan() (forge.Plan, string) {
	const root = "example.com/repo.git"
	module, two := file("go.mod", mod(root)), file("go.mod", mod(root+"/v2"))
	license := file("LICENSE", "free\n")
	return forge.Plan{
		Commits: []forge.Commit{
			{Files: []api.File{file("a.go", "package a\n")}, Time: 1100000000, Message: "none\n"},
			{Files: []api.File{file("a.go", "package a\n"), license, module}, Time: 1136214245, Message: "one\n", Parents: []int{0}},
			{Files: []api.File{file("a.go", "package b\n"), license, module, file("sub/go.mod", mod(root+"/sub")), file("sub/s.go", "package sub\n"), file("sub/deep/x/y.go", "package y\n"), file("sub.x/z", "z"), file("vendor/x/y.go", "package v\n")}, Parents: []int{1}, Time: 1136214300, Message: "two\n"},
			{Files: []api.File{module, license}, Parents: []int{2}, Time: 1136214400, Message: "x\n"},
			{Files: []api.File{two, file("b.go", "package b\n")}, Parents: []int{1, 2}, Time: 1136214500, Message: "v2\n"},
			{Files: []api.File{two, file("b.go", "package c\n")}, Parents: []int{4}, Time: 1136214600, Message: "v2 on\n"},
		},
		Tags:     []forge.Name{{Name: "v2.0.0", Commit: 0}, {Name: "v1.0.0", Commit: 1}, {Name: "v1.1.0-rc.1", Commit: 2, Note: true}, {Name: "sub/v0.2.0", Commit: 2}, {Name: "v2.1.0", Commit: 4, Note: true}},
		Branches: []forge.Name{{Name: "main", Commit: 3}, {Name: "two", Commit: 5}, {Name: "none", Commit: 0}},
		Head:     "main",
	}, root
}

// P26.1: go mod download of that repository (Go 1.27) told the same versions and hashes.
func TestGoCommand(t *testing.T) {
	p, root := goPlan()
	for _, style := range styles() {
		files, _ := forge.Build(p, style)
		r := opened(t, files, root)
		for _, c := range []struct{ path, query, version, hash string }{
			{root, "main", "v1.1.0-rc.1.0.20060102150640-e8b9b802eb17", "h1:pem5ObQOQS1FbSX5hiooYF9tKLaAi4YptzpYWmUs/KA="},
			{root, "none", "v2.0.0+incompatible", "h1:pqfWghqFp8e3uOMgrRyD0d9Rd4S4h4br+igPWbMjcVo="},
			{root, "da410463c98d", "v1.1.0-rc.1", "h1:nfR1XyiBTQRBJ+0YiT9sD7sXh7pzJTIVL7ZF8m/tG1c="},
			{root, "aaf2714c6823c2ce70c14b05974c9a034075f397", "v1.0.0", "h1:GznOEcJIaX9HJXNz8jjoPV629vlqfifXOyLl27M0wX0="},
			{root, "v1.0.0", "v1.0.0", "h1:GznOEcJIaX9HJXNz8jjoPV629vlqfifXOyLl27M0wX0="},
			{root + "/v2", "v2.1.0", "v2.1.0", "h1:xmlIAPx7kYGQboYDKQ8EafTLd6CpiZZaFw0zzpmKOss="},
			{root + "/v2", "two", "v2.1.1-0.20060102151000-30d6641c9707", "h1:7pLOvSVR90H08ZbF+l/ZtOoWy3H0LLSVF5GznxQ+yX0="},
			{root + "/sub", "da410463c98d", "v0.2.0", "h1:qq7LIJ0B3hMHUTj9w3kYpJzDQVVvb55BEofTQww+j1A="},
		} {
			x, e := r.Stat(c.path, c.query)
			hash, f := r.Hash(c.path, x.Version)
			if x.Version != c.version || hash != c.hash || e != api.OK || f != api.OK {
				t.Errorf("%v: %s at %s: %v, %d, %s, %d, not %s, %s", style, c.path, c.query, x, e, hash, f, c.version, c.hash)
			}
			same(t, fmt.Sprint(style), r, c.path, x.Version)
		}
		lists(t, fmt.Sprint(style), r, root, api.OK, "v1.0.0", "v1.1.0-rc.1", "v2.0.0+incompatible")
		lists(t, fmt.Sprint(style), r, root+"/sub", api.OK, "v0.2.0")
	}
}

// P26.1: Json: times and versions that are none.
func TestJson(t *testing.T) {
	for _, c := range []struct {
		x    api.Info
		want string
	}{
		{api.Info{Version: "v1.0.0", Time: 1136214245}, `{"Version":"v1.0.0","Time":"2006-01-02T15:04:05Z"}`},
		{api.Info{Version: "v1.0.0"}, `{"Version":"v1.0.0","Time":"1970-01-01T00:00:00Z"}`},
		{api.Info{Version: "v1"}, `{"Version":"v1","Time":"1970-01-01T00:00:00Z"}`},
		{api.Info{Version: "v1.2", Id: "what isn't told"}, `{"Version":"v1.2","Time":"1970-01-01T00:00:00Z"}`},
		{api.Info{Version: "v2.0.0-rc.1+incompatible", Time: -1}, `{"Version":"v2.0.0-rc.1+incompatible","Time":"1969-12-31T23:59:59Z"}`},
		{api.Info{Version: "v0.0.0-20060102150405-abcdefabcdef", Time: 253402300799}, `{"Version":"v0.0.0-20060102150405-abcdefabcdef","Time":"9999-12-31T23:59:59Z"}`},
		{api.Info{Version: "v0.0.0", Time: -62135596800}, `{"Version":"v0.0.0","Time":"0001-01-01T00:00:00Z"}`},
		{api.Info{Version: "v0.0.0", Time: 253402300800}, ""},
		{api.Info{Version: "v0.0.0", Time: -62135596801}, ""},
		{api.Info{Version: "v0.0.0", Time: math.MaxInt}, ""},
		{api.Info{Version: "v0.0.0", Time: math.MinInt}, ""},
		{api.Info{}, ""},
		{api.Info{Version: "main"}, ""},
		{api.Info{Version: "1.0.0"}, ""},
		{api.Info{Version: "v1.0.0\""}, ""},
		{api.Info{Version: "v01.0.0"}, ""},
		{api.Info{Version: "v1.0.0-" + strings.Repeat("x", 93)}, `{"Version":"v1.0.0-` + strings.Repeat("x", 93) + `","Time":"1970-01-01T00:00:00Z"}`},
		{api.Info{Version: "v1.0.0-" + strings.Repeat("x", 94)}, ""},
		{api.Info{Version: "", Time: math.MaxInt}, ""},
	} {
		wantE := api.OK
		if c.want == "" {
			wantE = api.ErrForm
		}
		if s, e := Json(c.x); s != c.want || e != wantE {
			t.Errorf("Json(%v): %s, %d, not %s, %d", c.x, s, e, c.want, wantE)
		}
	}
	if Incompatible != "+incompatible" {
		t.Errorf("Incompatible is %q", Incompatible)
	}
}

// P26.7: what is handed in isn't changed, nor kept, nor its spare room; answers are new memory.
func TestMemory(t *testing.T) {
	for _, style := range styles() {
		files, _ := forge.Build(threePlan(), style)
		spare := api.File{Path: "spare", Data: "room"}
		given := append(slices.Clip(files), spare, spare)
		kept := slices.Clone(given)
		r, e := Open(given[:len(files)], root)
		other := opened(t, files, root)
		if e != api.OK || !slices.Equal(given, kept) {
			t.Fatalf("Open: %d, %v", e, given)
		}
		// The repository stands still, whatever comes to be of the files.
		for i := range given {
			given[i] = api.File{}
		}
		one, _ := r.List(root)
		two, _ := r.List(root)
		one[0] = "changed"
		_ = append(one, "behind")
		first, _ := r.Files(root, "v1.1.0")
		second, _ := r.Files(root, "v1.1.0")
		want := slices.Clone(second)
		for i := range first {
			first[i] = api.File{}
		}
		_ = append(first, spare)
		if !slices.Equal(two, []string{"v1.0.0", "v1.1.0"}) || !slices.Equal(second, want) || len(want) != 3 {
			t.Errorf("%v: two answers share memory: %v, %v", style, two, second)
		}
		for _, query := range []string{"v1.0.0", "v1.1.0", "main", "HEAD"} {
			same(t, "the files that were handed in are others by now", repo{r, other.words}, root, query)
		}
	}
}

// P26.1, K4: the same call is answered in the same way, behind whatever others.
func TestAgain(t *testing.T) {
	r := planned(t, threePlan(), forge.Style{Objects: forge.Mixed})
	for range 3 {
		for _, path := range []string{root, root + "/sub", root + "/v2", "example.com/other", ""} {
			for _, query := range []string{"v1.1.0", "HEAD", "v9.9.9", "", "main"} {
				same(t, "again", r, path, query)
			}
		}
	}
}

// P26.1: files that have nothing in common with a repository.
func TestEmpty(t *testing.T) {
	for _, files := range [][]api.File{nil, {}, {file("a", "b")}, {file("objects/info/x", ""), file("refs/y", "z")}} {
		if _, e := snap.New(files); e != api.OK {
			t.Fatal(e)
		}
		r := opened(t, files, root)
		lists(t, "no repository", r, root, api.OK)
		lists(t, "no repository", r, root+"/sub/v3", api.OK)
		lists(t, "no repository", r, "example.com/x", api.ErrAbsent)
		lists(t, "no repository", r, "x", api.ErrForm)
		latest(t, "no repository", r, root, api.ErrForm, api.Info{})
		fails(t, "no repository", r, root, "HEAD", api.ErrForm)
		fails(t, "no repository", r, root, "main", api.ErrForm)
		fails(t, "no repository", r, root, "abcd", api.ErrAbsent)
		refuses(t, "no repository", r, root, "v1.0.0", api.ErrAbsent)
		refuses(t, "no repository", r, root, "v1", api.ErrForm)
		refuses(t, "no repository", r, root, "v0.0.0-20060102150405-abcdefabcdef", api.ErrAbsent)
	}
}
