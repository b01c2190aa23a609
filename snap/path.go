package snap

import (
	"strings"

	"cartulary/api"
)

const slash = "/"

// Clean: is it a path?
func Clean(path string) bool {
	return len(path) <= api.MaxPath && plain(path) && whole(path)
}

// plain: are all its bytes from 32 to 126?
func plain(path string) bool {
	for i := range len(path) {
		if path[i] < 32 || path[i] > 126 {
			return false
		}
	}
	return true
}

// whole: can each part between the slashes be a name? The empty text is one empty part.
func whole(path string) bool {
	for _, part := range strings.Split(path, slash) {
		if part == "" || part == "." || part == ".." {
			return false
		}
	}
	return true
}
