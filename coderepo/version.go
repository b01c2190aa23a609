package coderepo

import (
	"slices"
	"strings"

	"cartulary/api"
	"cartulary/history"
	"cartulary/pseudo"
	"cartulary/semver"
)

// noMajor is the major version of a module whose path says none, where there is no tag.
const noMajor = "v0"

// tag is a version for which there is a reference that leads to a commit.
type tag struct {
	version, commit string
}

// tags: those of a place that lead to commits, in the versions' order.
func (r *Repo) tags(p place) []tag {
	front := tagName(p, "")
	var versions []string
	for _, name := range r.refs.Names(front) {
		if v := name[len(front):]; canonical(v) && !pseudo.Is(v) {
			versions = append(versions, v)
		}
	}
	var tags []tag
	for _, v := range semver.Sort(versions) {
		if commit, e := r.tagCommit(p, v); e == api.OK {
			tags = append(tags, tag{v, commit})
		}
	}
	return tags
}

// canonical: is it a version in its own canonical form?
func canonical(v string) bool {
	return v != "" && semver.Canonical(v) == v
}

// tagName: the reference of a version.
func tagName(p place, v string) string {
	return tagFront + joined(p.dir, v)
}

// tagCommit: the commit of a version's tag.
func (r *Repo) tagCommit(p place, v string) (string, api.Errno) {
	id, e := r.refs.Lookup(tagName(p, v))
	if e != api.OK {
		return "", e
	}
	return history.Peel(r.objects, id)
}

// version: a module at a version.
func (r *Repo) version(path, query string) (module, api.Errno) {
	p, e := r.place(path)
	if e != api.OK {
		return module{}, e
	}
	v := strings.TrimSuffix(query, Incompatible)
	if !canonical(v) {
		return module{}, api.ErrForm
	}
	if parts, e := pseudo.Parse(v); e == api.OK {
		return r.pseudoVersion(p, query, v, parts)
	}
	id, e := r.tagCommit(p, v)
	if e != api.OK {
		return module{}, e
	}
	return r.calledModule(p, id, v, query)
}

// calledModule: a module at a commit, where a version is called so.
func (r *Repo) calledModule(p place, id, v, query string) (module, api.Errno) {
	m, e := r.module(p, id)
	if e != api.OK {
		return module{}, e
	}
	if called, _ := m.call(v); called != query {
		return module{}, api.ErrForm
	}
	return m, api.OK
}

// pseudoVersion: a module at a pseudo-version of these parts.
func (r *Repo) pseudoVersion(p place, query, v string, parts pseudo.Parts) (module, api.Errno) {
	id, e := r.objects.Resolve(parts.Rev)
	if e != api.OK {
		return module{}, e
	}
	m, e := r.calledModule(p, id, v, query)
	if e != api.OK {
		return module{}, e
	}
	if m.commit.Committer.Time != parts.Time {
		return module{}, api.ErrSum
	}
	if parts.Base == "" {
		return m, api.OK
	}
	if e := r.checkBase(p, parts.Base, id); e != api.OK {
		return module{}, e
	}
	return m, api.OK
}

// checkBase: the error of a pseudo-version's base, whose commit has to be before the version's own.
func (r *Repo) checkBase(p place, base, id string) api.Errno {
	old, e := r.tagCommit(p, base)
	if e != api.OK {
		return e
	}
	before, e := history.Before(r.objects, old, id, api.MaxNodes)
	if e == api.OK && !before {
		e = api.ErrAbsent
	}
	return e
}

// revision: what a revision of a module is.
func (r *Repo) revision(path, query string) (api.Info, api.Errno) {
	p, e := r.place(path)
	if e != api.OK {
		return api.Info{}, e
	}
	id, e := r.revisionCommit(query)
	if e != api.OK {
		return api.Info{}, e
	}
	m, e := r.module(p, id)
	if e != api.OK {
		return api.Info{}, e
	}
	tags := r.tags(p)
	for _, t := range slices.Backward(tags) {
		if version, called := m.call(t.version); called && t.commit == id {
			return m.told(version), api.OK
		}
	}
	version, e := r.untagged(m, tags)
	if e != api.OK {
		return api.Info{}, e
	}
	return m.told(version), api.OK
}

// revisionCommit: the commit of a reference, or of the beginning of a name.
func (r *Repo) revisionCommit(query string) (string, api.Errno) {
	names := []string{branchFront + query, tagFront + query}
	if query == head {
		names = []string{head}
	}
	for _, name := range names {
		id, e := r.refs.Lookup(name)
		if e == api.OK {
			return history.Peel(r.objects, id)
		}
		if e != api.ErrAbsent && e != api.ErrForm {
			return "", e
		}
	}
	id, e := r.objects.Resolve(query)
	if e != api.OK {
		return "", e
	}
	return history.Peel(r.objects, id)
}

// untagged: the pseudo-version of a module whose commit has no tag, above the highest of the tags that are before it.
func (r *Repo) untagged(m module, tags []tag) (string, api.Errno) {
	ancestors, e := history.Ancestors(r.objects, m.id, api.MaxNodes)
	if e != api.OK {
		return "", e
	}
	major, base := m.major, ""
	if major == "" {
		major = noMajor
	}
	for _, t := range tags {
		if version, _ := m.call(t.version); version == t.version && slices.Contains(ancestors, t.commit) {
			base = t.version
		}
	}
	return pseudo.Make(major, base, m.commit.Committer.Time, m.id[:pseudo.Digits])
}
