package modfile

import (
	"strings"

	"cartulary/api"
	"cartulary/snap"
)

const (
	slash = "/"
	stop  = "."
	// barred are the bytes of a path that no file's path has.
	barred = "\"'*<>?`|\\:;"
)

// Path: is it a module's path?
func Path(s string) bool {
	if len(s) > api.MaxPath {
		return false
	}
	first, others, more := strings.Cut(s, slash)
	if !firstPart(first) {
		return false
	}
	if !more {
		return true
	}
	for _, part := range strings.Split(others, slash) {
		if !bounded(part) || !each(part, plainByte) {
			return false
		}
	}
	return true
}

// firstPart: may a module's path begin with it?
func firstPart(part string) bool {
	return bounded(part) && each(part, firstByte) && strings.Contains(part, stop) && part[0] != '-'
}

// bounded: is there something, with no full stop at either end?
func bounded(part string) bool {
	return part != "" && !strings.HasPrefix(part, stop) && !strings.HasSuffix(part, stop)
}

// each: may each byte stand there?
func each(s string, may func(c byte) bool) bool {
	for i := range len(s) {
		if !may(s[i]) {
			return false
		}
	}
	return true
}

// firstByte: may it stand in the first part?
func firstByte(c byte) bool {
	return c >= 'a' && c <= 'z' || c >= '0' && c <= '9' || c == '-' || c == '.'
}

// plainByte: may it stand in the other parts?
func plainByte(c byte) bool {
	return firstByte(c) || c >= 'A' && c <= 'Z' || c == '_' || c == '~'
}

// FilePath: may a file of a module stand there?
func FilePath(s string) bool {
	// With a slash behind it, the last part ends as the others do.
	return snap.Clean(s) && !strings.ContainsAny(s, barred) && !strings.Contains(s+slash, stop+slash)
}
