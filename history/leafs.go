package history

import (
	"slices"
	"strings"

	"cartulary/api"
	"cartulary/odb"
	"cartulary/tree"
)

// Leaf is a file of a folder, at any depth.
type Leaf struct {
	Path string
	Mode int
	Id   string
}

// Leafs: the files under a tree, by rising paths, at most so many.
func Leafs(d *odb.Odb, id string, most int) ([]Leaf, api.Errno) {
	w := &walk{d: d, most: most, bare: map[string]room{}}
	e := w.enter(id, "")
	for e == api.OK && len(w.open) > 0 {
		e = w.step()
	}
	if e != api.OK {
		return nil, e
	}
	slices.SortFunc(w.leafs, func(a, b Leaf) int { return strings.Compare(a.Path, b.Path) })
	return w.leafs, api.OK
}

// walk is a way through all folders under a tree.
type walk struct {
	d     *odb.Odb
	most  int
	leafs []Leaf
	// open are the folders that are being gone through, each within the one ahead of it.
	open []folder
	// waiting is how many folders wait in all that are open.
	waiting int
	// bare are the trees that were gone through and have no leafs. A few trees that stand in one another many times
	// over make more folders than could ever be looked at, and without leafs no budget ends that.
	bare map[string]room
}

// folder is one whose entries were looked at.
type folder struct {
	id, path string
	// waiting are the folders in it that are still to be gone through, in their order.
	waiting []api.Entry
	// before is how many leafs had come ahead of its own.
	before int
	room   room
}

// room is what all that is in a folder needs, wherever that stands.
type room struct {
	// levels is how many folders stand within one another under it.
	levels int
	// bytes is how many the longest path has behind the folder's own.
	bytes int
	// waiting is how many of its folders wait at a time.
	waiting int
}

// enter looks at a folder's entries, and keeps the folders among them for later.
func (w *walk) enter(id, path string) api.Errno {
	entries, e := Folder(w.d, id)
	if e != api.OK {
		return e
	}
	f := folder{id: id, path: path, before: len(w.leafs)}
	for _, x := range entries {
		below := join(path, x.Name)
		if e := w.check(below, x.Mode); e != api.OK {
			return e
		}
		if x.Mode == tree.Folder {
			f.waiting = append(f.waiting, x)
		} else {
			w.leafs = append(w.leafs, Leaf{Path: below, Mode: x.Mode, Id: x.Id})
		}
	}
	f.room.waiting = len(f.waiting)
	w.open = append(w.open, f)
	w.waiting += len(f.waiting)
	if w.waiting > api.MaxLeafs {
		return api.ErrBudget
	}
	return api.OK
}

// check: the error of an entry, at a path, of the folder that is being entered, which isn't among the open ones yet.
func (w *walk) check(path string, mode int) api.Errno {
	switch {
	case len(path) > api.MaxPath:
		return api.ErrBig
	case mode != tree.Folder && len(w.leafs) >= w.most:
		return api.ErrBudget
	case mode == tree.Folder && len(w.open)+1 >= api.MaxLevel:
		return api.ErrCycle
	}
	return api.OK
}

// join: the path of a name in a folder; the first folder's own path is empty.
func join(path, name string) string {
	if path == "" {
		return name
	}
	return path + slash + name
}

// step goes on with the next folder that waits in the innermost open one, or leaves that, if none does.
func (w *walk) step() api.Errno {
	inner := &w.open[len(w.open)-1]
	if len(inner.waiting) == 0 {
		w.leave()
		return api.OK
	}
	x := inner.waiting[0]
	inner.waiting = inner.waiting[1:]
	w.waiting--
	path := join(inner.path, x.Name)
	if need, bare := w.bare[x.Id]; bare && w.fits(path, need) {
		inner.passed(path, need)
		return api.OK
	}
	return w.enter(x.Id, path)
}

// fits: is there room for all that is in a folder at a path in the innermost open one?
func (w *walk) fits(path string, need room) bool {
	return len(w.open)+need.levels < api.MaxLevel && len(path)+need.bytes <= api.MaxPath && w.waiting+need.waiting <= api.MaxLeafs
}

// leave goes back from the innermost open folder.
func (w *walk) leave() {
	last := len(w.open) - 1
	f := w.open[last]
	w.open = w.open[:last]
	if len(w.leafs) > f.before {
		return
	}
	w.bare[f.id] = f.room
	if last > 0 {
		w.open[last-1].passed(f.path, f.room)
	}
}

// passed: a folder in this one, at a path, was gone through, or needn't be: this one needs what that does.
func (f *folder) passed(path string, need room) {
	f.room.levels = max(f.room.levels, 1+need.levels)
	f.room.bytes = max(f.room.bytes, len(path)-len(f.path)+need.bytes)
	f.room.waiting = max(f.room.waiting, len(f.waiting)+need.waiting)
}
