package modfile

import (
	"math/rand"
	"strings"
	"testing"

	"cartulary/api"
)

// says: Module of a text answers this path.
func says(t *testing.T, s, want string) {
	t.Helper()
	if path, at, e := Module(s); path != want || at != 0 || e != api.OK {
		t.Errorf("Module(%q): %q, %d, %d, not %q", s, path, at, e, want)
	}
	holds(t, s)
}

// wrongs: Module of a text that Parse reads answers this error and line.
func wrongs(t *testing.T, s string, want int, wantE api.Errno) {
	t.Helper()
	if path, at, e := Module(s); path != "" || at != want || e != wantE {
		t.Errorf("Module(%q): %q, %d, %d, not %d, %d", s, path, at, e, want, wantE)
	}
	if !holds(t, s) {
		t.Errorf("%q isn't read", s)
	}
}

// P22.3: one module directive, written in each way.
func TestModule(t *testing.T) {
	says(t, "module example.com/a", "example.com/a")
	says(t, "module example.com/a\n", "example.com/a")
	says(t, "\n\n// x\nmodule\texample.com/a//y\r\n", "example.com/a")
	says(t, "module \"a.b\"", "a.b")
	says(t, "module`a.b/c`", "a.b/c")
	says(t, "\"module\" a.b", "a.b")
	says(t, "`module` \"a.b\" // x", "a.b")
	says(t, "module (\nexample.com/a\n)", "example.com/a")
	says(t, "module (\n\n// x\n\"a.b\"\n\n)\n", "a.b")
	says(t, "go 1.27\nrequire a.b v1\nmodule c.d\nrequire (\nmodule e.f\n)", "c.d")
	says(t, "module (\n)\nmodule a.b", "a.b")
	says(t, "Module x\nmodules x\nmodul x\nmodule a.b\n", "a.b")
	says(t, "module a.b\nrequire (\nmodule v1\n)\nreplace module => c.d", "a.b")
	long := "a.b/" + strings.Repeat("c", 196)
	says(t, "module "+long, long)
}

// P22.3: none; two; one with no word and with two; a path that is none.
func TestModuleWrong(t *testing.T) {
	for _, s := range []string{"", "\n", "// module a.b", "go 1.27", "Module a.b", "MODULE a.b", "modules a.b", "\"module a.b\"", "\"module \" a.b", "module/ a.b", "module=a.b", "require module a.b", "require (\nmodule a.b\n)", "module (\n)", "module (\n// a.b\n)\n"} {
		wrongs(t, s, 0, api.ErrAbsent)
	}
	for _, path := range []string{"", "\"\"", "``", "a", "a.b c.d", "a.b a.b", "a.b \"\"", "\"\" a.b", "a.b/", "/a.b", "-a.b", "A.b", "a.b/.c", "\"a.b \"", "\"a.b\\n\"", "` a.b`", "\"a.b c.d\"", "a.b v1.0.0", "a.b/" + strings.Repeat("c", 197), "\"a.b\"\"c\"", "a.b\"\""} {
		wrongs(t, "module "+path, 1, api.ErrForm)
		wrongs(t, "go 1.27\n\nmodule "+path+" // x\nrequire a.b v1\n", 3, api.ErrForm)
	}
	wrongs(t, "module (\na\n)", 2, api.ErrForm)
	wrongs(t, "module (\n\na.b c.d\n)", 3, api.ErrForm)
	wrongs(t, "module (\n\"\"\n)", 2, api.ErrForm)
	for _, second := range []string{"a.b", "c.d", "", "a", "a.b c.d", "\"\""} {
		wrongs(t, "module a.b\nmodule "+second, 2, api.ErrDouble)
		wrongs(t, "\nmodule a.b\n\ngo 1\nmodule "+second+"\nmodule e.f", 5, api.ErrDouble)
		wrongs(t, "module (\na.b\n)\nmodule "+second, 4, api.ErrDouble)
	}
	wrongs(t, "module (\na.b\nc.d\n)", 3, api.ErrDouble)
	wrongs(t, "module (\na.b\nc\nd\n)", 3, api.ErrDouble)
	wrongs(t, "module a.b\nmodule (\nc.d\n)", 3, api.ErrDouble)
}

// P22.3: which of several errors counts: those of Parse first, then the directives' in their order.
func TestModuleErrorOrder(t *testing.T) {
	wrongs(t, "module a\nmodule a.b", 1, api.ErrForm)
	wrongs(t, "module\nmodule\nmodule", 1, api.ErrForm)
	wrongs(t, "module a.b\nmodule a\nmodule c.d", 2, api.ErrDouble)
	fails(t, "module a\nmodule a.b\n)", 3, api.ErrText)
	fails(t, "module a.b\nmodule a.b\n\"", 3, api.ErrText)
	fails(t, "go 1.27\n\"\"", 2, api.ErrText)
	fails(t, "module a.b\nrequire (", 2, api.ErrText)
	fails(t, "module a\n)"+strings.Repeat(" ", 65536), 0, api.ErrBig)
	fails(t, "module a.b\n"+strings.Repeat("\n", 65536), 0, api.ErrBig)
}

// P22.3: Plain is the text, whatever the path is.
func TestPlain(t *testing.T) {
	for _, path := range []string{"", "a", "a.b", "example.com/a", "a b", "\n", "\"", "\x00\xff", strings.Repeat("a", 70000)} {
		if s := Plain(path); s != "module "+path+"\n" {
			t.Errorf("Plain(%.60q): %.60q", path, s)
		}
	}
}

// P22.3: what Plain writes of a module's path is read back; of another text it isn't taken for a path.
func TestPlainReadBack(t *testing.T) {
	random := rand.New(rand.NewSource(3))
	good, bad := 0, 0
	hold := func(path string) {
		got, at, e := Module(Plain(path))
		if Path(path) {
			good++
			if got != path || at != 0 || e != api.OK {
				t.Errorf("Module(Plain(%q)): %q, %d, %d", path, got, at, e)
			}
		} else if bad++; got == path && e == api.OK {
			t.Errorf("Module(Plain(%q)): %q, %d, %d", path, got, at, e)
		}
		holds(t, Plain(path))
	}
	for _, path := range []string{"a.b", "example.com/a/v2", "a.b/C_~", "a.-b/-/~/_", "a.b/" + strings.Repeat("c", 196), "a." + strings.Repeat("b", 198), "", "a", "a.b//c", "a.b c.d", "a.b\n", "//a.b", "a.b (", "\"a.b\""} {
		hold(path)
	}
	for range 20000 {
		b := []byte("a.b/")
		for range random.Intn(9) {
			b = append(b, "abZ09-_~../"[random.Intn(11)])
		}
		hold(string(b))
		hold(string(b[random.Intn(4):]))
	}
	if good < 5000 || bad < 5000 {
		t.Errorf("%d paths, %d others", good, bad)
	}
}
