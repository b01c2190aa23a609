package modzip

import (
	"crypto/sha256"
	"encoding/base64"
	"fmt"
	"regexp"
	"slices"
	"sort"
	"strings"
	"testing"

	"cartulary/api"
)

// Modes by their numbers.
const (
	folder = 0o40000
	plain  = 0o100644
	runs   = 0o100755
	link   = 0o120000
	module = 0o160000
)

// items: Plain ones at these paths, each with its path as its bytes.
func items(paths ...string) []Item {
	var l []Item
	for _, p := range paths {
		l = append(l, Item{Path: p, Mode: plain, Data: p})
	}
	return l
}

// of: items at these paths, of a mode.
func of(mode int, paths ...string) []Item {
	l := items(paths...)
	for i := range l {
		l[i].Mode = mode
	}
	return l
}

// files: those at these places whose bytes are a front and their places.
func files(front string, places ...string) []api.File {
	var l []api.File
	for _, p := range places {
		l = append(l, api.File{Path: p, Data: front + p})
	}
	return l
}

// selects holds Select, and its model, against what the document asks.
func selects(t *testing.T, what string, l []Item, dir string, wantE api.Errno, want ...api.File) {
	t.Helper()
	got, e := Select(l, dir)
	if e != wantE || !slices.Equal(got, want) || e != api.OK && got != nil {
		t.Errorf("%s: Select(%.300v, %q): %.300v, %d, not %.300v, %d", what, fmt.Sprint(l), dir, fmt.Sprint(got), e, fmt.Sprint(want), wantE)
	}
	if model, modelE := selectByWords(l, dir); modelE != wantE || !slices.Equal(model, want) {
		t.Errorf("%s: selectByWords(%.300v, %q): %.300v, %d, not %.300v, %d", what, fmt.Sprint(l), dir, fmt.Sprint(model), modelE, fmt.Sprint(want), wantE)
	}
}

// paths holds the places that Select answers against these, whatever the files' bytes are.
func paths(t *testing.T, what string, l []Item, dir string, want ...string) {
	t.Helper()
	got, e := Select(l, dir)
	var places []string
	for _, f := range got {
		places = append(places, f.Path)
	}
	if e != api.OK || !slices.Equal(places, want) {
		t.Errorf("%s: Select(%.300v, %q): %v, %d, not %v", what, fmt.Sprint(l), dir, places, e, want)
	}
	if model, modelE := selectByWords(l, dir); modelE != e || !slices.Equal(model, got) {
		t.Errorf("%s: selectByWords(%.300v, %q): %v, %d", what, fmt.Sprint(l), dir, model, modelE)
	}
}

var (
	pathForm = regexp.MustCompile(`^[ -~]{1,200}\z`)
	fileForm = regexp.MustCompile("^[^\"'*<>?`|\\\\:;]*\\z")
)

// isPath: a path by the document's words.
func isPath(s string) bool {
	bounded := "/" + s + "/"
	return pathForm.MatchString(s) && !strings.Contains(bounded, "//") && !strings.Contains(bounded, "/./") && !strings.Contains(bounded, "/../")
}

// isFile: a file's path by the document's words.
func isFile(s string) bool {
	return isPath(s) && fileForm.MatchString(s) && !strings.Contains(s+"/", "./")
}

// lower: a text with small letters for A to Z.
func lower(s string) string {
	b := []byte(s)
	for i, c := range b {
		if c >= 'A' && c <= 'Z' {
			b[i] += 32
		}
	}
	return string(b)
}

// checkByWords: the errors of files' paths by the document's words.
func checkByWords(l []api.File) api.Errno {
	all := 0
	for _, f := range l {
		all += len(f.Data)
		if !isFile(f.Path) {
			return api.ErrForm
		}
	}
	for i := range l {
		for k := range i {
			if lower(l[i].Path) == lower(l[k].Path) {
				return api.ErrDouble
			}
		}
	}
	if all > 500000 || len(l) > 600 {
		return api.ErrBig
	}
	return api.OK
}

// selectByWords: Select by the document's words.
func selectByWords(all []Item, dir string) ([]api.File, api.Errno) {
	if dir != "" && !isPath(dir) {
		return nil, api.ErrForm
	}
	var own, l []api.File
	for _, x := range all {
		place := x.Path
		if dir != "" {
			if !strings.HasPrefix(x.Path, dir+"/") {
				continue
			}
			place = x.Path[len(dir)+1:]
		}
		if x.Mode == 33188 || x.Mode == 33261 {
			own = append(own, api.File{Path: place, Data: x.Data})
		}
	}
	licensed := false
	for _, f := range own {
		out := strings.HasPrefix(f.Path, "vendor/") || strings.Contains(f.Path, "/vendor/")
		for _, g := range own {
			if strings.HasSuffix(g.Path, "/go.mod") && strings.HasPrefix(f.Path, strings.TrimSuffix(g.Path, "go.mod")) {
				out = true
			}
		}
		if !out {
			l = append(l, f)
			licensed = licensed || f.Path == "LICENSE"
		}
	}
	for _, x := range all {
		if dir != "" && !licensed && x.Path == "LICENSE" && (x.Mode == 33188 || x.Mode == 33261) {
			l = append(l, api.File{Path: "LICENSE", Data: x.Data})
			licensed = true
		}
	}
	sort.SliceStable(l, func(i, k int) bool { return l[i].Path < l[k].Path })
	if e := checkByWords(l); e != api.OK {
		return nil, e
	}
	return l, api.OK
}

// hashByWords: Hash by the document's words.
func hashByWords(module, version string, l []api.File) string {
	l = slices.Clone(l)
	sort.SliceStable(l, func(i, k int) bool { return l[i].Path < l[k].Path })
	text := ""
	for _, f := range l {
		text += fmt.Sprintf("%x  %s@%s/%s\n", sha256.Sum256([]byte(f.Data)), module, version, f.Path)
	}
	sum := sha256.Sum256([]byte(text))
	return "h1:" + base64.StdEncoding.EncodeToString(sum[:])
}
