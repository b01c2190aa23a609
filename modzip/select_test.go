package modzip

import (
	"fmt"
	"math/rand"
	"slices"
	"strings"
	"testing"

	"cartulary/api"
)

// P24.1: the document's examples.
func TestSelectExamples(t *testing.T) {
	l := items("a.go", "sub/go.mod", "sub/b.go", "vendor/x/c.go", "LICENSE")
	selects(t, "the whole", l, "", api.OK, files("", "LICENSE", "a.go")...)
	selects(t, "sub", l, "sub", api.OK, api.File{Path: "LICENSE", Data: "LICENSE"}, api.File{Path: "b.go", Data: "sub/b.go"}, api.File{Path: "go.mod", Data: "sub/go.mod"})
	selects(t, "A.go and a.go", items("A.go", "a.go"), "", api.ErrDouble)
	selects(t, "a:b", items("a:b"), "", api.ErrForm)
	selects(t, "nothing", nil, "", api.OK)
	selects(t, "nothing in a folder", []Item{}, "a", api.OK)
}

// P24.1: no dir, a dir, one in which nothing stands, one that is no path.
func TestSelectDir(t *testing.T) {
	l := items("a", "d/b", "d/c/e", "d.f/g", "dd/h", "d0", "d", "D/i", "c/d/j")
	selects(t, "no dir", l, "", api.OK, files("", "D/i", "a", "c/d/j", "d", "d.f/g", "d/b", "d/c/e", "d0", "dd/h")...)
	selects(t, "d", l, "d", api.OK, files("d/", "b", "c/e")...)
	selects(t, "d/c", l, "d/c", api.OK, files("d/c/", "e")...)
	selects(t, "D", l, "D", api.OK, files("D/", "i")...)
	selects(t, "a file", l, "a", api.OK)
	selects(t, "none", l, "x", api.OK)
	selects(t, "a beginning of a name", l, "d.", api.OK)
	selects(t, "a dir of 200 bytes", items(strings.Repeat("a", 200)+"/b"), strings.Repeat("a", 200), api.OK, files(strings.Repeat("a", 200)+"/", "b")...)
	for _, dir := range []string{"/", "d/", "/d", "d//c", ".", "..", "./d", "d/.", "d/..", "d/../d", "d\x00", "\n", "é", "\x7f", strings.Repeat("a", 201)} {
		selects(t, "no path", l, dir, api.ErrForm)
		selects(t, "no path, no items", nil, dir, api.ErrForm)
		selects(t, "no path, an item there", items(dir+"/a"), dir, api.ErrForm)
	}
	// A path of a folder that couldn't be a file's, or a module's, is one.
	for _, dir := range []string{"a:b", "a.", "...", " ", "~", "vendor", "a/vendor/b", "go.mod", "LICENSE", ".git"} {
		selects(t, "a path", items(dir+"/b"), dir, api.OK, files(dir+"/", "b")...)
	}
}

// P24.1: items of each mode.
func TestSelectModes(t *testing.T) {
	for _, mode := range []int{0, -1, 1, 644, 755, 0o644, 0o755, 100644, 100755, 0o100600, 0o100664, 0o100645, 0o110644, folder, plain, runs, link, module} {
		l := append(of(mode, "x", "d/y", "bad:", "", "X"), items("a", "d/b")...)
		if mode == plain || mode == runs {
			selects(t, "a mode that counts", l, "", api.ErrForm)
			selects(t, "a mode that counts", l, "d", api.OK, files("d/", "b", "y")...)
			continue
		}
		// What doesn't count may stand anywhere, and be as big as it likes.
		l = append(l, of(mode, "a", "A", "d/b", "d/")...)
		l = append(l, Item{Path: "big", Mode: mode, Data: strings.Repeat("x", 500001)})
		for i := range 601 {
			l = append(l, of(mode, fmt.Sprint("many/", i))...)
		}
		selects(t, fmt.Sprintf("mode %o", mode), l, "", api.OK, files("", "a", "d/b")...)
		selects(t, fmt.Sprintf("mode %o", mode), l, "d", api.OK, files("d/", "b")...)
	}
}

// P24.1: go.mod in the module's own folder, and in folders below it at any depth.
func TestSelectOtherModules(t *testing.T) {
	l := items("go.mod", "a", "b/a", "b/go.mod", "b/c/a", "c/a", "c/d/e/go.mod", "c/d/e/f/a", "c/d/g", "b.a", "b0", "bb/a", "c/d/e.a", "c/d/ee/a", "a/b/a")
	paths(t, "the whole", l, "", "a", "a/b/a", "b.a", "b0", "bb/a", "c/a", "c/d/e.a", "c/d/ee/a", "c/d/g", "go.mod")
	paths(t, "b", l, "b", "a", "c/a", "go.mod")
	paths(t, "c", l, "c", "a", "d/e.a", "d/ee/a", "d/g")
	paths(t, "c/d", l, "c/d", "e.a", "ee/a", "g")
	paths(t, "c/d/e", l, "c/d/e", "f/a", "go.mod")
	paths(t, "c/d/e/f", l, "c/d/e/f", "a")
	// Wherever the go.mod stands among the items, and in one another.
	slices.Reverse(l)
	paths(t, "turned about", l, "", "a", "a/b/a", "b.a", "b0", "bb/a", "c/a", "c/d/e.a", "c/d/ee/a", "c/d/g", "go.mod")
	paths(t, "in one another", items("a/go.mod", "a/b/go.mod", "a/b/c", "a/bb", "a/b.c/go.mod", "aa/x", "a.b/go.mod", "a.b/c", "a.c/d", "a0/d"), "", "a.c/d", "a0/d", "aa/x")
	paths(t, "many beside one another", items("a/go.mod", "a-/go.mod", "a./go.mod", "a0/go.mod", "a/x", "a-/x", "a./x", "a0/x", "a1/x", "a1"), "", "a1", "a1/x")
	paths(t, "names that are near", items("a/go.mod.x", "a/xgo.mod", "a/x", "b/Go.mod", "b/x", "c/go.mod/x", "c/y", "d/go.mo", "go.mod"), "", "a/go.mod.x", "a/x", "a/xgo.mod", "b/Go.mod", "b/x", "c/go.mod/x", "c/y", "d/go.mo", "go.mod")
	// A folder that itself is called so.
	paths(t, "a folder go.mod with one", items("go.mod/go.mod", "go.mod/x", "y"), "", "y")
	// One whose folder's name is empty is no module's own.
	paths(t, "a folder without a name", items("/go.mod", "/x", "y"), "", "y")
	paths(t, "a folder without a name, deep", items("a//go.mod", "a//x", "a/y"), "", "a/y")
	selects(t, "a folder without a name, no go.mod", items("/x", "y"), "", api.ErrForm)
	// What another module has isn't asked.
	big := Item{Path: "m/big", Mode: plain, Data: strings.Repeat("x", 500001)}
	paths(t, "another module's files", append(items("m/go.mod", "m/A", "m/a", "m/b:", "m/", "m/c.", "x"), big), "", "x")
	paths(t, "the other module's place itself", items("m/go.mod", "m/", "m"), "", "m")
}

// P24.1: a go.mod of a mode that doesn't count; one that Runs does.
func TestSelectOtherModulesModes(t *testing.T) {
	for _, mode := range []int{0, folder, link, module, 0o100664} {
		paths(t, fmt.Sprintf("mode %o", mode), append(of(mode, "m/go.mod"), items("m/a", "b")...), "", "b", "m/a")
		paths(t, fmt.Sprintf("mode %o, and one that counts", mode), append(of(mode, "m/go.mod"), items("m/a", "b", "m/go.mod")...), "", "b")
	}
	paths(t, "Runs", append(of(runs, "m/go.mod"), items("m/a", "b")...), "", "b")
	// One outside of the folder makes nothing another module's.
	paths(t, "outside", items("go.mod", "d/go.mod", "d/e/a", "e/go.mod"), "d/e", "a")
}

// P24.1: a folder vendor at any depth.
func TestSelectVendor(t *testing.T) {
	l := items("vendor/a", "vendor/b/c", "x/vendor/a", "x/y/vendor/z/a", "x/vendor.go", "x/vendors/a", "xvendor/a", "vendor.a/b", "Vendor/q", "x/y/vendor.d", "a/vendor")
	selects(t, "the whole", l, "", api.OK, files("", "Vendor/q", "a/vendor", "vendor.a/b", "x/vendor.go", "x/vendors/a", "x/y/vendor.d", "xvendor/a")...)
	selects(t, "a file vendor", items("vendor", "x"), "", api.OK, files("", "vendor", "x")...)
	selects(t, "x", l, "x", api.OK, files("x/", "vendor.go", "vendors/a", "y/vendor.d")...)
	// What stands in the module's own folder isn't in a vendor that is ahead of that.
	selects(t, "vendor", items("vendor/a", "vendor/vendor/b", "vendor/b/vendor/c"), "vendor", api.OK, files("vendor/", "a")...)
	selects(t, "vendor/b", l, "vendor/b", api.OK, files("vendor/b/", "c")...)
	// What stands there isn't asked, nor is a go.mod there more than that.
	big := Item{Path: "vendor/big", Mode: plain, Data: strings.Repeat("x", 500001)}
	selects(t, "what stands there", append(items("vendor/A", "vendor/a", "vendor/b:", "vendor/", "a/vendor/", "vendor/go.mod", "a/vendor/m/go.mod", "a/b"), big), "", api.OK, files("", "a/b")...)
	selects(t, "a LICENSE there", items("d/vendor/LICENSE", "LICENSE"), "d", api.OK, files("", "LICENSE")...)
}

// P24.1: LICENSE of the module's own, of the commit alone, and of several.
func TestSelectLicense(t *testing.T) {
	root := Item{Path: "LICENSE", Mode: plain, Data: "root's"}
	own := Item{Path: "d/LICENSE", Mode: plain, Data: "d's"}
	a := Item{Path: "d/a", Mode: plain, Data: "a"}
	fileA := api.File{Path: "a", Data: "a"}
	selects(t, "the commit's alone", []Item{a, root}, "d", api.OK, api.File{Path: "LICENSE", Data: "root's"}, fileA)
	selects(t, "both", []Item{root, a, own}, "d", api.OK, api.File{Path: "LICENSE", Data: "d's"}, fileA)
	selects(t, "both, turned about", []Item{own, a, root}, "d", api.OK, api.File{Path: "LICENSE", Data: "d's"}, fileA)
	selects(t, "the module's alone", []Item{own, a}, "d", api.OK, api.File{Path: "LICENSE", Data: "d's"}, fileA)
	selects(t, "neither", []Item{a}, "d", api.OK, fileA)
	selects(t, "in a folder of which there is nothing", []Item{a, root}, "e/f", api.OK, api.File{Path: "LICENSE", Data: "root's"})
	selects(t, "no dir", []Item{a, own, root}, "", api.OK, api.File{Path: "LICENSE", Data: "root's"}, api.File{Path: "d/LICENSE", Data: "d's"}, api.File{Path: "d/a", Data: "a"})
	// Of several the first that counts; of modes that don't count none.
	other := Item{Path: "LICENSE", Mode: runs, Data: "another one"}
	wrong := Item{Path: "LICENSE", Mode: link, Data: "elsewhere"}
	selects(t, "several", []Item{wrong, a, other, root}, "d", api.OK, api.File{Path: "LICENSE", Data: "another one"}, fileA)
	selects(t, "several, turned about", []Item{root, other, wrong, a}, "d", api.OK, api.File{Path: "LICENSE", Data: "root's"}, fileA)
	selects(t, "a link", []Item{wrong, a}, "d", api.OK, fileA)
	selects(t, "several without a dir", []Item{root, other}, "", api.ErrDouble)
	ownLink := Item{Path: "d/LICENSE", Mode: link, Data: "elsewhere"}
	selects(t, "the module's a link", []Item{ownLink, a, root}, "d", api.OK, api.File{Path: "LICENSE", Data: "root's"}, fileA)
	ownRuns := Item{Path: "d/LICENSE", Mode: runs, Data: "d's"}
	selects(t, "the module's runs", []Item{ownRuns, a, root}, "d", api.OK, api.File{Path: "LICENSE", Data: "d's"}, fileA)
	// Those of folders between, and of other names, don't stand for it.
	selects(t, "between", items("d/LICENSE", "d/e/a"), "d/e", api.OK, files("d/e/", "a")...)
	selects(t, "other names", items("LICENSE.md", "License", "LICENSE/x", "/LICENSE", "d/a"), "d", api.OK, files("d/", "a")...)
	selects(t, "a folder of that name in d", items("d/LICENSE/x", "LICENSE"), "d", api.OK, api.File{Path: "LICENSE", Data: "LICENSE"}, api.File{Path: "LICENSE/x", Data: "d/LICENSE/x"})
	selects(t, "the folder LICENSE", items("LICENSE", "LICENSE/x"), "LICENSE", api.OK, api.File{Path: "LICENSE", Data: "LICENSE"}, api.File{Path: "x", Data: "LICENSE/x"})
	selects(t, "alike but for letters", items("d/License", "LICENSE"), "d", api.ErrDouble)
	// It counts as the others do.
	root.Data = strings.Repeat("x", 500000)
	selects(t, "500000 bytes of it", []Item{root, {Path: "d/a", Mode: plain}}, "d", api.OK, api.File{Path: "LICENSE", Data: root.Data}, api.File{Path: "a"})
	selects(t, "500000 bytes of it and one more", []Item{root, a}, "d", api.ErrBig)
	many := of(plain, "LICENSE")
	for i := range 600 {
		many = append(many, items(fmt.Sprintf("d/%03d", i))...)
	}
	paths(t, "599 and it", many[:600], "d", placesOf(many[1:600], "d/", "LICENSE")...)
	selects(t, "600 and it", many, "d", api.ErrBig)
}

// placesOf: the places of items behind a front, and others, rising.
func placesOf(l []Item, front string, others ...string) []string {
	for _, x := range l {
		others = append(others, strings.TrimPrefix(x.Path, front))
	}
	slices.Sort(others)
	return others
}

// P24.1: a place that is nothing, places that no file may have; ahead of all other errors.
func TestSelectForm(t *testing.T) {
	selects(t, "no Path", items(""), "", api.ErrForm)
	selects(t, "no Path, in a dir", items("", "d/a"), "d", api.OK, files("d/", "a")...)
	selects(t, "a place that is nothing", items("d/", "d/a"), "d", api.ErrForm)
	selects(t, "a place that is nothing, of a link", append(of(link, "d/", "d//"), items("d/a")...), "d", api.OK, files("d/", "a")...)
	selects(t, "the dir itself", items("d", "d/a"), "d", api.OK, files("d/", "a")...)
	bad := []string{"/", "/a", "a/", "a//b", ".", "..", "a/.", "a/../b", "a.", "a./b", "...", "a\x00", "\x1f", "a\x7f", "é", "\xff", strings.Repeat("a", 201)}
	for _, c := range "\"'*<>?`|\\:;" {
		bad = append(bad, string(c), "a"+string(c), "a/"+string(c)+"b")
	}
	for _, p := range bad {
		selects(t, "no file's path", items(p), "", api.ErrForm)
		selects(t, "no file's path", items("a-", p, "~"), "", api.ErrForm)
		selects(t, "no file's path, in a dir", items("d/"+p), "d", api.ErrForm)
		selects(t, "no file's path, elsewhere", items("e/"+p, "d/a"), "d", api.OK, files("d/", "a")...)
		selects(t, "no file's path, of a link", of(link, p), "", api.OK)
		selects(t, "ahead of doubles", items("A", "a", p), "", api.ErrForm)
		selects(t, "ahead of bytes", append(items(p), Item{Path: "b", Mode: plain, Data: strings.Repeat("x", 500001)}), "", api.ErrForm)
	}
	good := []string{"a", ".a", "..a", "a b", " ", "~", "-", "a/.b", "!#$%&()+,-.=@[]^_{}~", strings.Repeat("a", 200)}
	for _, p := range good {
		selects(t, "a file's path", items(p), "", api.OK, files("", p)...)
	}
	// A Path may be longer than its place may.
	long := strings.Repeat("d", 200)
	selects(t, "a place of 200 bytes", items(long+"/"+long), long, api.OK, files(long+"/", long)...)
	selects(t, "a place of 201 bytes", items(long+"/"+long+"d"), long, api.ErrForm)
	many := items("a:")
	for i := range 601 {
		many = append(many, items(fmt.Sprint(i))...)
	}
	selects(t, "ahead of too many", many, "", api.ErrForm)
}

// P24.1: items of one place, places alike but for great and small letters; ahead of too much.
func TestSelectDouble(t *testing.T) {
	for _, l := range [][]string{{"a", "a"}, {"a", "A"}, {"ab/C", "AB/c"}, {"Z", "b", "z"}, {"a.go", "b", "c", "A.GO"}, {"x/go.mody", "X/Go.mody"}, {"[a]", "[A]"}} {
		selects(t, fmt.Sprint(l), items(l...), "", api.ErrDouble)
		slices.Reverse(l)
		selects(t, fmt.Sprint(l), items(l...), "", api.ErrDouble)
		var below []string
		for _, p := range l {
			below = append(below, "d/"+p)
		}
		selects(t, fmt.Sprint(below), items(below...), "d", api.ErrDouble)
		selects(t, "elsewhere", items(below...), "e", api.OK)
		big := Item{Path: "big", Mode: plain, Data: strings.Repeat("x", 500001)}
		selects(t, "ahead of bytes", append(items(l...), big), "", api.ErrDouble)
	}
	// Other bytes that are 32 apart aren't letters; folders alone may be alike.
	for _, l := range [][]string{{"@", "a", "b"}, {"[", "{"}, {"]", "}"}, {"^", "~"}, {"A/b", "a/c"}, {"a", "a/b"}, {"A", "a/b"}, {"0", "P"}} {
		selects(t, fmt.Sprint(l), items(l...), "", api.OK, files("", l...)...)
	}
	for c := byte('A'); c <= 'Z'; c++ {
		selects(t, string(rune(c)), items("x"+string(rune(c)), "x"+string(rune(c+32))), "", api.ErrDouble)
	}
	// A link beside a file of that place is no double.
	selects(t, "a link beside it", append(of(link, "a", "A"), items("a")...), "", api.OK, files("", "a")...)
	many := items("a", "A")
	for i := range 601 {
		many = append(many, items(fmt.Sprint(i))...)
	}
	selects(t, "ahead of too many", many, "", api.ErrDouble)
}

// P24.1: 500000 bytes and one more, 600 files and 601.
func TestSelectBig(t *testing.T) {
	most := strings.Repeat("x", 500000)
	selects(t, "500000 bytes", []Item{{Path: "a", Mode: plain, Data: most}, {Path: "b", Mode: runs}}, "", api.OK, api.File{Path: "a", Data: most}, api.File{Path: "b"})
	selects(t, "500001 bytes", []Item{{Path: "a", Mode: plain, Data: most + "x"}}, "", api.ErrBig)
	selects(t, "500001 bytes in two", []Item{{Path: "a", Mode: plain, Data: most}, {Path: "b", Mode: runs, Data: "x"}}, "", api.ErrBig)
	selects(t, "1048577 bytes", []Item{{Path: "a", Mode: plain, Data: most + most + most}}, "", api.ErrBig)
	selects(t, "500000 bytes and others elsewhere", []Item{{Path: "d/a", Mode: plain, Data: most}, {Path: "b", Mode: plain, Data: most}}, "d", api.OK, api.File{Path: "a", Data: most})
	var l []Item
	var want []api.File
	for i := range 602 {
		l = append(l, items(fmt.Sprintf("%04d", i))...)
		want = append(want, files("", fmt.Sprintf("%04d", i))...)
	}
	selects(t, "600 files", l[:600], "", api.OK, want[:600]...)
	selects(t, "601 files", l[:601], "", api.ErrBig)
	selects(t, "602 files", l, "", api.ErrBig)
	selects(t, "600 files, and others elsewhere", append(l[:600:600], items("vendor/a", "m/go.mod")...), "", api.OK, want[:600]...)
}

// someItems: items of few names, so that much falls together.
func someItems(random *rand.Rand) []Item {
	names := []string{"a", "b", "A", "a.b", "vendor", "go.mod", "LICENSE", "d", "d0", "a:", ""}
	var l []Item
	for range random.Intn(12) {
		var parts []string
		for range 1 + random.Intn(4) {
			parts = append(parts, names[random.Intn(len(names)-2+random.Intn(20)/19*2)])
		}
		mode := []int{plain, plain, plain, runs, link, folder}[random.Intn(6)]
		l = append(l, Item{Path: strings.Join(parts, "/"), Mode: mode, Data: fmt.Sprint(random.Intn(1000))})
	}
	return l
}

// P24.1: any items and folders, held against the document's words.
func TestSelectAny(t *testing.T) {
	random := rand.New(rand.NewSource(1))
	told := map[api.Errno]int{}
	for range 40000 {
		l := someItems(random)
		dir := []string{"", "", "d", "a", "a/d", "d/d", "vendor", "LICENSE", "go.mod", "d/"}[random.Intn(10)]
		want, wantE := selectByWords(l, dir)
		got, e := Select(l, dir)
		if e != wantE || !slices.Equal(got, want) {
			t.Fatalf("Select(%v, %q): %v, %d, not %v, %d", l, dir, got, e, want, wantE)
		}
		told[e] += len(got) + 1
	}
	if told[api.OK] < 20000 || told[api.ErrForm] < 1000 || told[api.ErrDouble] < 300 {
		t.Errorf("too few of a kind: %v", told)
	}
}

// P24.1: long places in many folders take no time that matters.
func TestSelectDeep(t *testing.T) {
	deep := strings.Repeat("a/", 60000)
	l := items(deep+"go.mod", deep+"b", "c")
	for range 300 {
		l = append(l, items(deep+"b")...)
	}
	if got, e := Select(l, ""); e != api.OK || !slices.Equal(got, files("", "c")) {
		t.Errorf("Select: %.200v, %d", fmt.Sprint(got), e)
	}
	if _, e := Select(l[1:], ""); e != api.ErrForm {
		t.Errorf("Select: %d", e)
	}
}
