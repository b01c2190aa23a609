package coderepo

import (
	"regexp"
	"strings"

	"cartulary/api"
	"cartulary/history"
	"cartulary/modfile"
	"cartulary/modzip"
	"cartulary/odb"
	"cartulary/pseudo"
	"cartulary/refs"
	"cartulary/semver"
	"cartulary/snap"
)

// words answers as the document's words say, call by call, from the layers below.
type words struct {
	d    *odb.Odb
	s    *refs.Refs
	root string
}

var majorForm = regexp.MustCompile(`^v([2-9]|[1-9][0-9]+)$`)

// openByWords: Open by the document's words.
func openByWords(files []api.File, root string) (*words, api.Errno) {
	if !modfile.Path(root) {
		return nil, api.ErrForm
	}
	s, e := snap.New(files)
	if e != api.OK {
		return nil, e
	}
	d, e := odb.Open(s)
	if e != api.OK {
		return nil, e
	}
	r, e := refs.Open(s)
	if e != api.OK {
		return nil, e
	}
	return &words{d, r, root}, api.OK
}

// place: Place by the document's words.
func (w *words) place(path string) (dir, major string, e api.Errno) {
	if !modfile.Path(path) {
		return "", "", api.ErrForm
	}
	if path == w.root {
		return "", "", api.OK
	}
	if !strings.HasPrefix(path, w.root+"/") {
		return "", "", api.ErrAbsent
	}
	parts := strings.Split(path[len(w.root)+1:], "/")
	if last := parts[len(parts)-1]; majorForm.MatchString(last) {
		return strings.Join(parts[:len(parts)-1], "/"), last, api.OK
	}
	return strings.Join(parts, "/"), "", api.OK
}

// stands is a module at a commit.
type stands struct {
	dir, major, id, folder, mod string
	change                      api.Change
	has                         bool
}

// file: the file at a path under a tree.
func (w *words) file(tree, path string) (data string, there bool, e api.Errno) {
	x, e := history.At(w.d, tree, strings.TrimPrefix(path, "/"))
	switch {
	case e == api.ErrAbsent:
		return "", false, api.OK
	case e != api.OK:
		return "", false, e
	case x.Mode != 0o100644 && x.Mode != 0o100755:
		return "", false, api.OK
	}
	data, e = w.d.Kind(x.Id, api.Blob)
	return data, true, e
}

// atCommit: a module at a commit.
func (w *words) atCommit(path, id string) (stands, api.Errno) {
	dir, major, e := w.place(path)
	if e != api.OK {
		return stands{}, e
	}
	change, e := history.Commit(w.d, id)
	if e != api.OK {
		return stands{}, e
	}
	x := stands{dir: dir, major: major, id: id, change: change}
	if major != "" {
		for _, folder := range []string{strings.TrimPrefix(dir+"/"+major, "/"), dir} {
			data, there, e := w.file(change.Tree, folder+"/go.mod")
			if e != api.OK {
				return stands{}, e
			}
			if said, _, e := modfile.Module(data); there && e == api.OK && said == path {
				x.folder, x.mod, x.has = folder, data, true
				return x, api.OK
			}
		}
		return stands{}, api.ErrAbsent
	}
	data, there, e := w.file(change.Tree, dir+"/go.mod")
	if e != api.OK {
		return stands{}, e
	}
	x.folder, x.mod, x.has = dir, data, there
	if there {
		if said, _, e := modfile.Module(data); e != api.OK || said != path {
			return stands{}, api.ErrForm
		}
		return x, api.OK
	}
	entry, e := history.At(w.d, change.Tree, dir)
	if e != api.OK {
		return stands{}, e
	}
	if entry.Mode != 0o40000 {
		return stands{}, api.ErrAbsent
	}
	x.mod = "module " + path + "\n"
	return x, api.OK
}

// called: how a version is called there; empty: it isn't.
func (x stands) called(v string) string {
	m := semver.Major(v)
	switch {
	case x.major != "" && m == x.major:
		return v
	case x.major == "" && (m == "v0" || m == "v1"):
		return v
	case x.major == "" && x.dir == "" && !x.has:
		return v + "+incompatible"
	}
	return ""
}

// tags: the tags of a folder, in the order.
func (w *words) tags(dir string) []string {
	var l []string
	for _, name := range w.s.Names("") {
		v, begins := strings.CutPrefix(name, "refs/tags/")
		if dir != "" && begins {
			v, begins = strings.CutPrefix(v, dir+"/")
		}
		if begins && semver.Canonical(v) == v && v != "" && !pseudo.Is(v) {
			l = append(l, v)
		}
	}
	return semver.Sort(l)
}

// tagged: the commit of a tag.
func (w *words) tagged(dir, v string) (string, api.Errno) {
	name := "refs/tags/" + v
	if dir != "" {
		name = "refs/tags/" + dir + "/" + v
	}
	id, e := w.s.Lookup(name)
	if e != api.OK {
		return "", e
	}
	return history.Peel(w.d, id)
}

// atVersion: a module at a version.
func (w *words) atVersion(path, query string) (stands, api.Errno) {
	dir, _, e := w.place(path)
	if e != api.OK {
		return stands{}, e
	}
	v, _ := strings.CutSuffix(query, "+incompatible")
	if v == "" || v != semver.Canonical(v) {
		return stands{}, api.ErrForm
	}
	parts, pe := pseudo.Parse(v)
	id := ""
	if pe == api.OK {
		id, e = w.d.Resolve(parts.Rev)
	} else {
		id, e = w.tagged(dir, v)
	}
	if e != api.OK {
		return stands{}, e
	}
	x, e := w.atCommit(path, id)
	switch {
	case e != api.OK:
		return stands{}, e
	case x.called(v) != query:
		return stands{}, api.ErrForm
	case pe != api.OK:
		return x, api.OK
	case x.change.Committer.Time != parts.Time:
		return stands{}, api.ErrSum
	case parts.Base == "":
		return x, api.OK
	}
	old, e := w.tagged(dir, parts.Base)
	if e != api.OK {
		return stands{}, e
	}
	before, e := history.Before(w.d, old, id, 400)
	if e != api.OK {
		return stands{}, e
	}
	if !before {
		return stands{}, api.ErrAbsent
	}
	return x, api.OK
}

// revision: the commit of one.
func (w *words) revision(query string) (string, api.Errno) {
	asked := []string{"refs/heads/" + query, "refs/tags/" + query}
	if query == "HEAD" {
		asked = []string{"HEAD"}
	}
	for _, name := range asked {
		id, e := w.s.Lookup(name)
		if e == api.ErrAbsent || e == api.ErrForm {
			continue
		}
		if e != api.OK {
			return "", e
		}
		return history.Peel(w.d, id)
	}
	id, e := w.d.Resolve(query)
	if e != api.OK {
		return "", e
	}
	return history.Peel(w.d, id)
}

// stat: Stat by the document's words.
func (w *words) stat(path, query string) (api.Info, api.Errno) {
	if _, is := semver.Parse(query); is {
		x, e := w.atVersion(path, query)
		if e != api.OK {
			return api.Info{}, e
		}
		return api.Info{Version: query, Id: x.id, Time: x.change.Committer.Time}, api.OK
	}
	dir, major, e := w.place(path)
	if e != api.OK {
		return api.Info{}, e
	}
	id, e := w.revision(query)
	if e != api.OK {
		return api.Info{}, e
	}
	x, e := w.atCommit(path, id)
	if e != api.OK {
		return api.Info{}, e
	}
	told := api.Info{Id: id, Time: x.change.Committer.Time}
	for _, v := range w.tags(dir) {
		if c, e := w.tagged(dir, v); e == api.OK && c == id && x.called(v) != "" {
			told.Version = x.called(v)
		}
	}
	if told.Version != "" {
		return told, api.OK
	}
	ancestors, e := history.Ancestors(w.d, id, 400)
	if e != api.OK {
		return api.Info{}, e
	}
	among := map[string]int{}
	for _, a := range ancestors {
		among[a]++
	}
	base := ""
	for _, v := range w.tags(dir) {
		if c, e := w.tagged(dir, v); e == api.OK && among[c] > 0 && x.called(v) == v {
			base = v
		}
	}
	if major == "" {
		major = "v0"
	}
	told.Version, e = pseudo.Make(major, base, told.Time, id[:12])
	if e != api.OK {
		return api.Info{}, e
	}
	return told, api.OK
}

// list: List by the document's words.
func (w *words) list(path string) ([]string, api.Errno) {
	dir, _, e := w.place(path)
	if e != api.OK {
		return nil, e
	}
	var l []string
	for _, v := range w.tags(dir) {
		for _, q := range []string{v, v + "+incompatible"} {
			if _, e := w.atVersion(path, q); e == api.OK {
				l = append(l, q)
			}
		}
	}
	return l, api.OK
}

// latest: Latest by the document's words.
func (w *words) latest(path string) (api.Info, api.Errno) {
	l, e := w.list(path)
	if e != api.OK {
		return api.Info{}, e
	}
	query := "HEAD"
	if len(l) > 0 {
		query = l[len(l)-1]
	}
	for _, v := range l {
		if !strings.Contains(v, "-") {
			query = v
		}
	}
	return w.stat(path, query)
}

// goMod: GoMod by the document's words.
func (w *words) goMod(path, version string) (string, api.Errno) {
	x, e := w.atVersion(path, version)
	return x.mod, e
}

// files: Files by the document's words.
func (w *words) files(path, version string) ([]api.File, api.Errno) {
	x, e := w.atVersion(path, version)
	if e != api.OK {
		return nil, e
	}
	leafs, e := history.Leafs(w.d, x.change.Tree, 500)
	if e != api.OK {
		return nil, e
	}
	var items []modzip.Item
	for _, leaf := range leafs {
		if leaf.Mode == 0o100644 || leaf.Mode == 0o100755 {
			data, e := w.d.Kind(leaf.Id, api.Blob)
			if e != api.OK {
				return nil, e
			}
			items = append(items, modzip.Item{Path: leaf.Path, Mode: leaf.Mode, Data: data})
		}
	}
	return modzip.Select(items, x.folder)
}
