package forge

import (
	"crypto/sha1"
	"encoding/hex"
	"fmt"
	"math/rand"
	"regexp"
	"slices"
	"sort"
	"strings"

	"cartulary/api"
)

var (
	partForm = regexp.MustCompile(`^[ -.0-~]{1,100}$`)
	gitForm  = regexp.MustCompile(`^\.[gG][iI][tT]$`)
	// A reference's name behind its folder: no part begins with a full stop, none ends with .lock, and so on.
	nameForm  = regexp.MustCompile(`^[!-~]{1,100}$`)
	nameFault = regexp.MustCompile(`\.\.|@\{|[~^:?*\[\\]|\.$|(^|/)\.|\.lock(/|$)|//|^/|/$`)
)

// isFilePath: by the words of layer 7, and of layers 14 and 25.
func isFilePath(s string) bool {
	parts := strings.Split(s, "/")
	if len(s) > 200 || len(parts) > 16 {
		return false
	}
	for _, part := range parts {
		if !partForm.MatchString(part) || gitForm.MatchString(part) || part == "." || part == ".." {
			return false
		}
	}
	return true
}

// commitByWords: the error of commit number i.
func commitByWords(c Commit, i int) api.Errno {
	if len(c.Files) > 60 {
		return api.ErrBig
	}
	form := c.Time >= 0 && c.Time <= 253402300799
	for k, f := range c.Files {
		form = form && isFilePath(f.Path) && len(f.Data) <= 65000
		for m, g := range c.Files {
			if m != k && strings.HasPrefix(g.Path+"/", f.Path+"/") {
				form = false
			}
		}
	}
	count := map[int]int{}
	for _, p := range c.Parents {
		count[p]++
		form = form && p >= 0 && p < i && count[p] == 1
	}
	switch {
	case !form:
		return api.ErrForm
	case len(c.Parents) > 16 || len(c.Message) > 32500:
		return api.ErrBig
	}
	return api.OK
}

// checkByWords: Check by the document's words.
func checkByWords(p Plan) api.Errno {
	if len(p.Commits) > 40 || len(p.Tags) > 40 || len(p.Branches) > 40 {
		return api.ErrBig
	}
	for i, c := range p.Commits {
		if e := commitByWords(c, i); e != api.OK {
			return e
		}
	}
	headed := p.Head == ""
	for _, l := range [][]Name{p.Tags, p.Branches} {
		for i, n := range l {
			if !nameForm.MatchString(n.Name) || nameFault.MatchString(n.Name) || n.Commit < 0 || n.Commit > len(p.Commits)-1 {
				return api.ErrForm
			}
			for k, other := range l {
				if i != k && strings.HasPrefix(other.Name+"/", n.Name+"/") {
					return api.ErrForm
				}
			}
		}
	}
	for _, n := range p.Branches {
		headed = headed || n.Name == p.Head
	}
	if !headed {
		return api.ErrForm
	}
	return api.OK
}

// world is what the document says that a plan makes.
type world struct {
	objects       map[string]api.Object
	commits, tags []string
}

// put: an object's name.
func (w *world) put(kind int, data string) string {
	word := []string{1: "commit", 2: "tree", 3: "blob", 4: "tag"}[kind]
	sum := sha1.Sum([]byte(fmt.Sprintf("%s %d\x00%s", word, len(data), data)))
	id := hex.EncodeToString(sum[:])
	w.objects[id] = api.Object{Kind: kind, Data: data}
	return id
}

// folder: the name of the tree of what stands under a front.
func (w *world) folder(files []api.File, front string) string {
	rows := map[string]string{}
	var keys []string
	for _, f := range files {
		rest, begins := strings.CutPrefix(f.Path, front)
		if !begins {
			continue
		}
		name, _, deeper := strings.Cut(rest, "/")
		key := name
		if deeper {
			key += "/"
		}
		if _, found := rows[key]; found {
			continue
		}
		keys = append(keys, key)
		row := "100644 " + name + "\x00"
		id := ""
		if deeper {
			row = "40000 " + name + "\x00"
			id = w.folder(files, front+key)
		} else {
			id = w.put(api.Blob, f.Data)
		}
		raw, _ := hex.DecodeString(id)
		rows[key] = row + string(raw)
	}
	sort.Strings(keys)
	text := ""
	for _, key := range keys {
		text += rows[key]
	}
	return w.put(api.Tree, text)
}

// objectsByWords: what a plan that is right makes.
func objectsByWords(p Plan) *world {
	w := &world{objects: map[string]api.Object{}}
	for _, c := range p.Commits {
		text := "tree " + w.folder(c.Files, "") + "\n"
		for _, parent := range c.Parents {
			text += "parent " + w.commits[parent] + "\n"
		}
		who := fmt.Sprintf("forge <forge@example.com> %d +0000\n", c.Time)
		text += "author " + who + "committer " + who + "\n" + c.Message
		w.commits = append(w.commits, w.put(api.Commit, text))
	}
	for _, n := range p.Tags {
		id := w.commits[n.Commit]
		if n.Note {
			id = w.put(api.Tag, fmt.Sprintf("object %s\ntype commit\ntag %s\ntagger forge <forge@example.com> %d +0000\n\n", id, n.Name, p.Commits[n.Commit].Time))
		}
		w.tags = append(w.tags, id)
	}
	return w
}

// names: all of them, rising.
func (w *world) names() []string {
	var l []string
	for id := range w.objects {
		l = append(l, id)
	}
	sort.Strings(l)
	return l
}

// references: where each one leads, and for a tag with an object of its own the commit behind it.
func (w *world) references(p Plan) (ids, peeled map[string]string) {
	ids, peeled = map[string]string{}, map[string]string{}
	for _, n := range p.Branches {
		ids["refs/heads/"+n.Name] = w.commits[n.Commit]
	}
	for i, n := range p.Tags {
		ids["refs/tags/"+n.Name] = w.tags[i]
		if n.Note {
			peeled["refs/tags/"+n.Name] = w.commits[n.Commit]
		}
	}
	return ids, peeled
}

// standsIn: the names that stand in an object, by its bytes alone.
func standsIn(o api.Object) []string {
	var l []string
	switch o.Kind {
	case api.Commit, api.Tag:
		head, _, _ := strings.Cut(o.Data, "\n\n")
		for _, line := range strings.Split(head, "\n") {
			word, rest, _ := strings.Cut(line, " ")
			if slices.Contains([]string{"tree", "parent", "object"}, word) {
				l = append(l, rest)
			}
		}
	case api.Tree:
		for s := o.Data; s != ""; {
			_, behind, _ := strings.Cut(s, "\x00")
			l = append(l, hex.EncodeToString([]byte(behind[:20])))
			s = behind[20:]
		}
	}
	return l
}

// randomPlan: one that is right, or nearly.
func randomPlan(random *rand.Rand) Plan {
	pick := func(l ...string) string { return l[random.Intn(len(l))] }
	var p Plan
	for i := range random.Intn(7) {
		c := Commit{Time: random.Intn(3) * 1136214245, Message: pick("", "x", "one\n", "two\n\nthree")}
		for range random.Intn(9) {
			path := pick("a", "b", "a.b", "a-b", "a0", "sub", "go.mod", "A")
			for range random.Intn(4) {
				path = pick("a", "sub", "sub.x", "sub-x", "sub0", "v2", "d") + "/" + path
			}
			if !slices.ContainsFunc(c.Files, func(f api.File) bool { return clashes(f.Path, path) }) || random.Intn(60) == 0 {
				c.Files = append(c.Files, api.File{Path: path, Data: pick("", "x", "module example.com/repo\n", strings.Repeat("some line\n", random.Intn(40)), path)})
			}
		}
		for range random.Intn(4) {
			if parent := random.Intn(i + 1); parent < i && !slices.Contains(c.Parents, parent) || random.Intn(60) == 0 {
				c.Parents = append(c.Parents, parent)
			}
		}
		p.Commits = append(p.Commits, c)
	}
	for _, l := range []*[]Name{&p.Tags, &p.Branches} {
		for range random.Intn(6) {
			name := pick("v1.0.0", "v1.1.0", "v2.0.0", "sub/v0.1.0", "sub/v0.2.0", "main", "x/y", "x/z", "sub", "v1")
			if len(p.Commits) > 0 && !slices.ContainsFunc(*l, func(n Name) bool { return clashes(n.Name, name) }) || random.Intn(60) == 0 {
				*l = append(*l, Name{Name: name, Commit: random.Intn(len(p.Commits) + 1), Note: random.Intn(2) == 0})
				if last := &(*l)[len(*l)-1]; last.Commit == len(p.Commits) && random.Intn(20) > 0 {
					last.Commit = 0
				}
			}
		}
	}
	if len(p.Branches) > 0 && random.Intn(2) == 0 {
		p.Head = p.Branches[random.Intn(len(p.Branches))].Name
	}
	return p
}

// clashes: is one of two the other, or a folder of it?
func clashes(a, b string) bool {
	return strings.HasPrefix(a+"/", b+"/") || strings.HasPrefix(b+"/", a+"/")
}
