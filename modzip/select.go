package modzip

import (
	"slices"
	"sort"
	"strings"

	"cartulary/api"
	"cartulary/snap"
	"cartulary/tree"
)

// Names that count.
const (
	goMod   = "go.mod"
	vendor  = "vendor"
	license = "LICENSE"
)

// Item is a file of a commit.
type Item struct {
	Path string
	Mode int
	Data string
}

// Select: the files of the module in a folder of a commit, by rising paths.
func Select(items []Item, dir string) ([]api.File, api.Errno) {
	if dir != "" && !snap.Clean(dir) {
		return nil, api.ErrForm
	}
	plain := plainFiles(items)
	files := below(plain, dir)
	foreign := othersFolders(files)
	files = slices.DeleteFunc(files, func(f api.File) bool { return foreign(f.Path) || vendored(f.Path) })
	if dir != "" && !has(files, license) {
		files = append(files, firstAt(plain, license)...)
	}
	files = rising(files)
	if e := check(files); e != api.OK {
		return nil, e
	}
	return files, api.OK
}

// plainFiles: the items that are files, and neither links nor folders.
func plainFiles(items []Item) []api.File {
	var files []api.File
	for _, x := range items {
		if x.Mode == tree.Plain || x.Mode == tree.Runs {
			files = append(files, api.File{Path: x.Path, Data: x.Data})
		}
	}
	return files
}

// below: the files under a folder, with their places in it; all, if it is empty.
func below(files []api.File, dir string) []api.File {
	front := ""
	if dir != "" {
		front = dir + slash
	}
	var l []api.File
	for _, f := range files {
		if place, begins := strings.CutPrefix(f.Path, front); begins {
			l = append(l, api.File{Path: place, Data: f.Data})
		}
	}
	return l
}

// othersFolders: a function that tells whether a place is in another module's folder: one, but for the module's own, in
// which a go.mod stands.
func othersFolders(files []api.File) func(place string) bool {
	var folders []string
	for _, f := range files {
		if folder, found := strings.CutSuffix(f.Path, slash+goMod); found {
			folders = append(folders, folder+slash)
		}
	}
	folders = outermost(folders)
	return func(place string) bool {
		// Of folders of which none is in another one, only the last that isn't behind the place may be its beginning.
		behind := sort.Search(len(folders), func(i int) bool { return folders[i] > place })
		return behind > 0 && strings.HasPrefix(place, folders[behind-1])
	}
}

// outermost: the folders, each with its slash, that are in no other one, rising. It sorts the list in place.
func outermost(folders []string) []string {
	slices.Sort(folders)
	var l []string
	for _, f := range folders {
		if len(l) == 0 || !strings.HasPrefix(f, l[len(l)-1]) {
			l = append(l, f)
		}
	}
	return l
}

// vendored: does a place stand in a folder vendor?
func vendored(place string) bool {
	return strings.HasPrefix(place, vendor+slash) || strings.Contains(place, slash+vendor+slash)
}

// has: is there a file at a path?
func has(files []api.File, path string) bool {
	return len(firstAt(files, path)) > 0
}

// firstAt: the first file at a path, if there is one.
func firstAt(files []api.File, path string) []api.File {
	i := slices.IndexFunc(files, func(f api.File) bool { return f.Path == path })
	if i < 0 {
		return nil
	}
	return files[i : i+1]
}

// rising: the files by rising paths, those of one path in their order.
func rising(files []api.File) []api.File {
	l := slices.Clone(files)
	slices.SortStableFunc(l, func(a, b api.File) int { return strings.Compare(a.Path, b.Path) })
	return l
}
