package coderepo

import (
	"strings"

	"cartulary/api"
	"cartulary/history"
	"cartulary/modfile"
	"cartulary/semver"
	"cartulary/tree"
)

// goModName is the file that says a module's path.
const goModName = "go.mod"

// place is where a module's path says that it stands.
type place struct {
	path, dir, major string
}

// place: where a module's path says that it stands.
func (r *Repo) place(path string) (place, api.Errno) {
	if !modfile.Path(path) {
		return place{}, api.ErrForm
	}
	if path == r.root {
		return place{path: path}, api.OK
	}
	dir, below := strings.CutPrefix(path, r.root+slash)
	if !below {
		return place{}, api.ErrAbsent
	}
	last := strings.LastIndex(dir, slash) + 1
	if !isMajor(dir[last:]) {
		return place{path: path, dir: dir}, api.OK
	}
	return place{path: path, dir: strings.TrimSuffix(dir[:last], slash), major: dir[last:]}, api.OK
}

// isMajor: is it v and a number from 2 on? It may have more digits than a version can.
func isMajor(part string) bool {
	digits, begins := strings.CutPrefix(part, "v")
	if !begins || digits == "" || digits[0] == '0' || digits == "1" {
		return false
	}
	return strings.Trim(digits, "0123456789") == ""
}

// module is a module at a commit.
type module struct {
	place
	id     string // the commit's name
	commit api.Change
	folder string // in which it stands
	goMod  string
	own    bool // has it a go.mod of its own?
}

// module: that of a place at a commit.
func (r *Repo) module(p place, id string) (module, api.Errno) {
	commit, e := history.Commit(r.objects, id)
	if e != api.OK {
		return module{}, e
	}
	m := module{place: p, id: id, commit: commit}
	if p.major != "" {
		e = r.findMajor(&m)
	} else {
		e = r.findPlain(&m)
	}
	if e != api.OK {
		return module{}, e
	}
	return m, api.OK
}

// findMajor finds the go.mod of a module with a major: in the folder MAJOR, or beside it.
func (r *Repo) findMajor(m *module) api.Errno {
	for _, folder := range []string{joined(m.dir, m.major), m.dir} {
		text, found, e := r.file(m.commit.Tree, joined(folder, goModName))
		if e != api.OK {
			return e
		}
		if found && says(text, m.path) {
			m.folder, m.goMod, m.own = folder, text, true
			return api.OK
		}
	}
	return api.ErrAbsent
}

// findPlain finds the go.mod of a module without a major, or what stands for it.
func (r *Repo) findPlain(m *module) api.Errno {
	m.folder = m.dir
	text, found, e := r.file(m.commit.Tree, joined(m.dir, goModName))
	if e != api.OK {
		return e
	}
	if found {
		m.goMod, m.own = text, true
		if !says(text, m.path) {
			return api.ErrForm
		}
		return api.OK
	}
	m.goMod = modfile.Plain(m.path)
	entry, e := history.At(r.objects, m.commit.Tree, m.dir)
	if e == api.OK && entry.Mode != tree.Folder {
		e = api.ErrAbsent
	}
	return e
}

// file: the bytes of the file at a path under a tree; is there one?
func (r *Repo) file(root, path string) (string, bool, api.Errno) {
	entry, e := history.At(r.objects, root, path)
	if e == api.ErrAbsent || e == api.OK && !isFile(entry.Mode) {
		return "", false, api.OK
	}
	if e != api.OK {
		return "", false, e
	}
	data, e := r.objects.Kind(entry.Id, api.Blob)
	return data, e == api.OK, e
}

// isFile: is an entry of this mode a file?
func isFile(mode int) bool {
	return mode == tree.Plain || mode == tree.Runs
}

// says: does a go.mod say this path?
func says(text, path string) bool {
	said, _, e := modfile.Module(text)
	return e == api.OK && said == path
}

// joined: the path of what stands in a folder.
func joined(folder, name string) string {
	if folder == "" {
		return name
	}
	return folder + slash + name
}

// call: how a version is called for a module; is it?
func (m module) call(v string) (string, bool) {
	major := semver.Major(v)
	if m.major == "" && (major == "v0" || major == "v1") || major == m.major {
		return v, true
	}
	if m.major == "" && m.dir == "" && !m.own {
		return v + Incompatible, true
	}
	return "", false
}

// told: what is told of a module's version.
func (m module) told(version string) api.Info {
	return api.Info{Version: version, Id: m.id, Time: m.commit.Committer.Time}
}
