package coderepo

import (
	"fmt"
	"strings"
	"testing"

	"cartulary/api"
	"cartulary/forge"
)

// opens holds the error of Open, and of its model, against what the document asks.
func opens(t *testing.T, what string, files []api.File, root string, want api.Errno) {
	t.Helper()
	r, e := Open(files, root)
	if e != want || (e == api.OK) != (r != nil) {
		t.Errorf("%s: Open(%d files, %q): %v, %d, not %d", what, len(files), root, r != nil, e, want)
	}
	if w, e := openByWords(files, root); e != want || (e == api.OK) != (w != nil) {
		t.Errorf("%s: openByWords(%d files, %q): %d, not %d", what, len(files), root, e, want)
	}
}

// P26.1: roots that are no module's path, and such as are.
func TestOpenRoot(t *testing.T) {
	for _, s := range []string{root, "a.b", "example.com", "example.com/a/b/c", "example.com/v2", "x.y/A_~-.z", "a." + strings.Repeat("b", 198)} {
		opens(t, "right", nil, s, api.OK)
	}
	for _, s := range []string{"", "repo", "example.com/", "/example.com", "example.com//a", "Example.com/a", "example.com/a b", "example.com/.a", "example.com/a.", "-a.b/c", "example.com/é", "a." + strings.Repeat("b", 199)} {
		opens(t, "wrong", nil, s, api.ErrForm)
	}
}

// P26.1: files that snap.New, odb.Open or refs.Open refuse, and which of these counts.
func TestOpenFiles(t *testing.T) {
	right, _ := forge.Build(threePlan(), forge.Style{Objects: forge.Packed, Refs: true})
	changed := func(suffix string, change func(s string) string) []api.File {
		var l []api.File
		for _, f := range right {
			if strings.HasSuffix(f.Path, suffix) {
				f.Data = change(f.Data)
			}
			l = append(l, f)
		}
		return l
	}
	turned := func(at int) func(s string) string {
		return func(s string) string {
			b := []byte(s)
			b[(at+len(b))%len(b)] ^= 1
			return string(b)
		}
	}
	cut := func(n int) func(s string) string {
		return func(s string) string { return s[:len(s)-n] }
	}
	without := func(suffix string) []api.File {
		var l []api.File
		for _, f := range right {
			if !strings.HasSuffix(f.Path, suffix) {
				l = append(l, f)
			}
		}
		return l
	}
	opens(t, "right", right, root, api.OK)
	var many []api.File
	for i := range 2001 {
		many = append(many, file(fmt.Sprint(i), ""))
	}
	opens(t, "2000 files", many[:2000], root, api.OK)
	opens(t, "2001 files", many, root, api.ErrBig)
	opens(t, "4194304 bytes", []api.File{file("a", strings.Repeat("x", 4194304))}, root, api.OK)
	opens(t, "4194305 bytes", []api.File{file("a", strings.Repeat("x", 4194305))}, root, api.ErrBig)
	opens(t, "no path", append(right[:len(right):len(right)], file("a//b", "")), root, api.ErrForm)
	opens(t, "twice", append(right[:len(right):len(right)], right[0]), root, api.ErrForm)
	opens(t, "a pack's byte", changed(".pack", turned(20)), root, api.ErrSum)
	opens(t, "a pack's end", changed(".pack", cut(1)), root, api.ErrSum)
	opens(t, "a pack's head", changed(".pack", turned(0)), root, api.ErrText)
	opens(t, "no pack", without(".pack"), root, api.ErrAbsent)
	opens(t, "no index", without(".idx"), root, api.OK)
	opens(t, "an index's head", changed(".idx", turned(0)), root, api.ErrText)
	opens(t, "an index's sum", changed(".idx", turned(-1)), root, api.ErrSum)
	opens(t, "half an index", changed(".idx", cut(500)), root, api.ErrEnd)
	opens(t, "packed references without an end", changed("packed-refs", cut(1)), root, api.ErrText)
	opens(t, "packed references twice", changed("packed-refs", func(s string) string { return s + strings.SplitAfter(s, "\n")[1] }), root, api.ErrForm)
	// The root counts first, then the folder, then the objects, then the references.
	opens(t, "no root", many, "x", api.ErrForm)
	opens(t, "no root", changed(".pack", turned(20)), "x", api.ErrForm)
	opens(t, "the folder ahead of the objects", append(changed(".pack", turned(20)), many...), root, api.ErrBig)
	opens(t, "the folder ahead of the objects", append(changed(".pack", turned(20)), file("", "")), root, api.ErrForm)
	both := changed(".pack", turned(20))
	for i, f := range both {
		if f.Path == "packed-refs" {
			both[i].Data = "x"
		}
	}
	opens(t, "the objects ahead of the references", both, root, api.ErrSum)
}

// places holds Place, and its model, against what the document asks.
func places(t *testing.T, r repo, path, wantDir, wantMajor string, wantE api.Errno) {
	t.Helper()
	if dir, major, e := r.Place(path); dir != wantDir || major != wantMajor || e != wantE {
		t.Errorf("Place(%q): %q, %q, %d, not %q, %q, %d", path, dir, major, e, wantDir, wantMajor, wantE)
	}
	if dir, major, e := r.words.place(path); dir != wantDir || major != wantMajor || e != wantE {
		t.Errorf("place by words(%q): %q, %q, %d, not %q, %q, %d", path, dir, major, e, wantDir, wantMajor, wantE)
	}
}

// P26.1: Place: the root, below it, beside it; majors at the root and below folders.
func TestPlace(t *testing.T) {
	r := opened(t, nil, root)
	places(t, r, root, "", "", api.OK)
	places(t, r, root+"/sub", "sub", "", api.OK)
	places(t, r, root+"/sub/deep", "sub/deep", "", api.OK)
	for _, front := range []string{"", "sub", "sub/deep", "v2", "v1", "v02", "a/v9"} {
		path, slash := root, ""
		if front != "" {
			path, slash = root+"/"+front, "/"
		}
		for _, major := range []string{"v2", "v3", "v9", "v10", "v11", "v19", "v20", "v100", "v2147483648", "v99999999999999999999", "v1" + strings.Repeat("0", 150)} {
			places(t, r, path+"/"+major, front, major, api.OK)
		}
		for _, none := range []string{"v0", "v1", "v02", "v00", "v01", "v", "v2x", "vx", "V2", "v2.0", "v-2", "2", "x2", "v2_", "v2~3", "vv2", "v1.0.0", "v2.0.0"} {
			places(t, r, path+"/"+none, front+slash+none, "", api.OK)
		}
	}
	for _, s := range []string{"example.com", "example.com/rep", "example.com/repository", "example.com/repo-x", "example.com/repo.x", "example.com/repo.x/v2", "example.com/Repo", "example.com/other/repo", "other.com/repo", "example.com/repo2/v2", "x.example.com/repo"} {
		places(t, r, s, "", "", api.ErrAbsent)
	}
	for _, s := range []string{"", "/", "repo", root + "/", root + "//sub", root + "/.", root + "/..", root + "/a b", root + "/sub/", "/" + root, root + "/é", root + "/.git", root + "/a.", "EXAMPLE.com/repo", root + "/" + strings.Repeat("a", 190), root + "@v1"} {
		places(t, r, s, "", "", api.ErrForm)
	}
}

// P26.1: a root that ends as a major does: only what is behind the root is looked at.
func TestPlaceOfMajorRoot(t *testing.T) {
	r := opened(t, nil, "example.com/v2")
	places(t, r, "example.com/v2", "", "", api.OK)
	places(t, r, "example.com/v2/v3", "", "v3", api.OK)
	places(t, r, "example.com/v2/v1", "v1", "", api.OK)
	places(t, r, "example.com/v2/a/v2", "a", "v2", api.OK)
	places(t, r, "example.com/v2/v2/v2", "v2", "v2", api.OK)
	places(t, r, "example.com/v20", "", "", api.ErrAbsent)
	places(t, r, "example.com/v3", "", "", api.ErrAbsent)
	p := forge.Plan{
		Commits: []forge.Commit{{Files: []api.File{file("go.mod", mod("example.com/v2"))}}},
		Tags:    []forge.Name{{Name: "v1.0.0"}, {Name: "v2.0.0"}},
	}
	files, _ := forge.Build(p, forge.Style{})
	r = opened(t, files, "example.com/v2")
	lists(t, "a root that ends as a major does", r, "example.com/v2", api.OK, "v1.0.0")
}

// P26.1: the error of Place is that of each call, ahead of whatever the query is.
func TestPlaceErrors(t *testing.T) {
	r := planned(t, threePlan(), forge.Style{})
	for path, want := range map[string]api.Errno{"": api.ErrForm, "repo": api.ErrForm, root + "/": api.ErrForm, "example.com/other": api.ErrAbsent, root + "x": api.ErrAbsent} {
		for _, query := range []string{"", "v1", "v1.0.0", "v9.0.0", "v0.0.0-20060102150405-abcdefabcdef", "main", "HEAD", "zz", "abcd", "+incompatible"} {
			refuses(t, "Place's error", r, path, query, want)
		}
		lists(t, "Place's error", r, path, want)
		latest(t, "Place's error", r, path, want, api.Info{})
	}
}
