package refs

import (
	"strings"

	"cartulary/snap"
)

const (
	slash = "/"
	stop  = "."
	// barred bytes stand in no name: they mean something where names are written with more around them.
	barred = " ~^:?*[\\"
)

// Name: is it a reference's name?
func Name(s string) bool {
	if s == head {
		return true
	}
	return strings.HasPrefix(s, folder) && snap.Clean(s) && plain(s) && wholeParts(s)
}

// plain: is nothing in it that no name has, wherever it stands?
func plain(s string) bool {
	for i := range len(s) {
		if strings.IndexByte(barred, s[i]) >= 0 {
			return false
		}
	}
	return !strings.Contains(s, "..") && !strings.Contains(s, "@{") && !strings.HasSuffix(s, stop)
}

// wholeParts: can each part between the slashes stand in a name?
func wholeParts(s string) bool {
	for _, part := range strings.Split(s, slash) {
		if strings.HasPrefix(part, stop) || strings.HasSuffix(part, ".lock") {
			return false
		}
	}
	return true
}
