package forge

import (
	"slices"
	"strings"

	"cartulary/api"
	"cartulary/commit"
	"cartulary/object"
	"cartulary/refs"
	"cartulary/snap"
	"cartulary/tree"
)

// maxMessage leaves a commit room for the lines ahead of its message.
const maxMessage = object.MaxData / 2

// Check: the error of a plan.
func Check(p Plan) api.Errno {
	if len(p.Commits) > MaxCommits || len(p.Tags) > MaxCommits || len(p.Branches) > MaxCommits {
		return api.ErrBig
	}
	for i, c := range p.Commits {
		if e := checkCommit(c, i); e != api.OK {
			return e
		}
	}
	if !named(p.Tags, tagFront, len(p.Commits)) || !named(p.Branches, branchFront, len(p.Commits)) || !headed(p) {
		return api.ErrForm
	}
	return api.OK
}

// checkCommit: the error of the commit of a number.
func checkCommit(c Commit, number int) api.Errno {
	if len(c.Files) > MaxFiles {
		return api.ErrBig
	}
	if c.Time < 0 || c.Time > commit.MaxTime || !filed(c.Files) || !descended(c.Parents, number) {
		return api.ErrForm
	}
	if len(c.Parents) > commit.MaxParents || len(c.Message) > maxMessage {
		return api.ErrBig
	}
	return api.OK
}

// filed: can these files stand in a commit's tree?
func filed(files []api.File) bool {
	if _, e := snap.New(files); e != api.OK {
		return false
	}
	for _, f := range files {
		if len(f.Data) > object.MaxData || strings.Count(f.Path, slash) >= api.MaxLevel {
			return false
		}
		for _, part := range strings.Split(f.Path, slash) {
			if !tree.Name(part) {
				return false
			}
		}
	}
	return true
}

// descended: do all parents stand ahead of the commit of a number, each once?
func descended(parents []int, number int) bool {
	for i, parent := range parents {
		if parent < 0 || parent >= number || slices.Contains(parents[:i], parent) {
			return false
		}
	}
	return true
}

// named: has each of these a reference's name that leaves the others room, and one of so many commits?
func named(l []Name, front string, commits int) bool {
	for i, n := range l {
		if !refs.Name(front+n.Name) || len(n.Name) > api.MaxName || n.Commit < 0 || n.Commit >= commits {
			return false
		}
		for _, other := range l[:i] {
			if clash(n.Name, other.Name) {
				return false
			}
		}
	}
	return true
}

// clash: would one of two references stand where the other one has its file, or a folder?
func clash(a, b string) bool {
	return a == b || strings.HasPrefix(a, b+slash) || strings.HasPrefix(b, a+slash)
}

// headed: is Head empty or a branch's name?
func headed(p Plan) bool {
	return p.Head == "" || slices.ContainsFunc(p.Branches, func(n Name) bool { return n.Name == p.Head })
}
