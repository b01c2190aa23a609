package forge

import (
	"slices"
	"strings"

	"cartulary/api"
	"cartulary/commit"
	"cartulary/object"
	"cartulary/tree"
)

// Made is what a plan's objects are: all of them, the commits' names, the tags' targets.
type Made struct {
	Objects []api.Object
	Commits []string
	Tags    []string
}

// Objects: a plan's objects and names.
func Objects(p Plan) (Made, api.Errno) {
	if e := Check(p); e != api.OK {
		return Made{}, e
	}
	m, _ := all(p)
	return m, api.OK
}

// all: what a plan that was checked makes, and the names of its objects in their order.
func all(p Plan) (Made, []string) {
	var m Made
	var ids []string
	seen := map[string]int{}
	put := func(kind int, data string) string {
		o := api.Object{Kind: kind, Data: data}
		id, _ := object.Id(o)
		seen[id]++
		if seen[id] == 1 {
			m.Objects = append(m.Objects, o)
			ids = append(ids, id)
		}
		return id
	}
	for _, c := range p.Commits {
		root := putFolder(rising(c.Files), put)
		m.Commits = append(m.Commits, put(api.Commit, commitText(c, root, m.Commits)))
	}
	for _, n := range p.Tags {
		id := m.Commits[n.Commit]
		if n.Note {
			id = put(api.Tag, tagText(n, id, p.Commits[n.Commit].Time))
		}
		m.Tags = append(m.Tags, id)
	}
	return m, ids
}

// rising: a copy of files, by rising paths.
func rising(files []api.File) []api.File {
	l := slices.Clone(files)
	slices.SortFunc(l, func(a, b api.File) int { return strings.Compare(a.Path, b.Path) })
	return l
}

// putFolder puts the tree of files with rising paths, behind all that stands in it: its name. Paths rise just as a tree's entries do, for which a folder's name has its slash.
func putFolder(files []api.File, put func(kind int, data string) string) string {
	var entries []api.Entry
	for i := 0; i < len(files); {
		name, _, deeper := strings.Cut(files[i].Path, slash)
		if !deeper {
			entries = append(entries, api.Entry{Mode: tree.Plain, Name: name, Id: put(api.Blob, files[i].Data)})
			i++
			continue
		}
		inner := within(files[i:], name+slash)
		entries = append(entries, api.Entry{Mode: tree.Folder, Name: name, Id: putFolder(inner, put)})
		i += len(inner)
	}
	text, _ := tree.Format(entries)
	return put(api.Tree, text)
}

// within: the files at the beginning of a list that stand in a folder, with their paths from there on.
func within(files []api.File, front string) []api.File {
	var l []api.File
	for _, f := range files {
		path, begins := strings.CutPrefix(f.Path, front)
		if !begins {
			break
		}
		l = append(l, api.File{Path: path, Data: f.Data})
	}
	return l
}

// commitText: a commit's bytes; ids are the names of the commits ahead of it.
func commitText(c Commit, root string, ids []string) string {
	change := api.Change{Tree: root, Author: signed(c.Time), Committer: signed(c.Time), Message: c.Message}
	for _, parent := range c.Parents {
		change.Parents = append(change.Parents, ids[parent])
	}
	text, _ := commit.Format(change)
	return text
}

// tagText: the bytes of the tag of a commit.
func tagText(n Name, id string, time int) string {
	text, _ := commit.FormatTag(api.Label{Object: id, Kind: api.Commit, Name: n.Name, Tagger: signed(time)})
	return text
}

// signed: by the one who has made all.
func signed(time int) api.Sign {
	return api.Sign{Who: Who, Time: time}
}
