package history

import (
	"bytes"
	stdzlib "compress/zlib"
	"encoding/base64"
	"io"
	"strings"
	"testing"

	"cartulary/api"
)

// A pack of git's making with its index (in a frame): a root, two commits on it, a merge of all three, their folders, with deltas on one another; tags of the merge, of a tag, of a tree, of a blob.
const (
	gitName = "55c151b075854b77079d95bf6b32eacc494f1153"
	gitPack = "UEFDSwAAAAIAAAAclBJ4nIWLMWoEMQxFe5/CfWCRLFuWISy5imzJSSAzuwwO5PiZYjdtfvGKz3vrcI9jWq8+5siNvaIL1ZZScgAb3KZ7R1aTGu56+L4iAeYiiAyNbChbArOeBTvC7KA2YEhp/PQVu5DRBEOm2mn07l5MUTk5tpKlnmXJT5+5tTK7IpjMjCOrsmhNwg1w" +
		"5mmEZowS9Ht93I6o+x5fT7z5j273L7+M23aNWOGx+AJIEM53+1zL/wnoLwibH+8efgHbJVSmxQd4nC2LywqDMBBF9/mK2Rck0+nkAaX0VyZxFKVRkVDq35uCd3HO5tw1zZorJHYsGX2KPWd1cZCBIoWe6Y7+ERJHq4HImXpsCnktZaqmyghf/GvUHWRZ4Nnw1p+U7aNd" +
		"q16A3l6Dm0WyxrTHCS2xIe/KB3icNYtBCsJADADv+4rcpbJJ09SCSL+SDXFBtt0iS9HfK1LnMMxlanq4NSDRu+hFhiTok/LoxK5CyCpsbEYTG+EQ2ntzSKWm0DTDjt2/sz9B1xWuX83+0mUrfra63ADHeACniH0M4fd8ANx5I901eJyrSi3K5wIABjkBy8cHeJwtitsK" +
		"gzAQRN/zFfsuld0Yc4Ei/ZWNXQUxUUoo9e8bIQNzGDhzxE3mAkuQN+lgdWBro3PRs/WIWoTNyK6qcTHekCrXKVB4VbXwpUebq3yAc4ZnxUt+nM5d+vlIE5DDFuiQBlT3Xf0BTpkiacoHeJw1i80KwjAQBu95ir2LsptKtgERXyXZfCmI/aGEom/fIjqHYS4z5yeskdWS" +
		"FVbtGgNU0HcavfdgLhZiBbKEVHp17bOA2gq4lgba5PzvASulaaLboQfeaVxeuNg83kmUf9CJpWPnvs8OS4clGaQPeJwzMQAChUTdJIaa9evmSxe+clorM3fH+8jMn1tWfpQyNDAwMzFRSNRLYghTW/3hu17E9YXBZt1La7ccKz7wsNAEopmBw277TzVjcY6bR+Pky1lm" +
		"OumkxIjCtBowqK3PaotOfLmkTuVVksgyH59DUw7BZHNS00oY5OcWRc19YbwsMq1D9pzehOq25zpxEJNzMpMYHvbclpN46sikefXa5cecKvcDVgT9NDSCSudlMxx1/fSz0XLKJ3fVjv/nCplu/Gp8wQs03dzUVKGoNI9BSqVVVcZ4OYuRpc/k353GfJ9E9p8EAMnUYGrq" +
		"BIV3eJxbwnSEUbekKDVVITU11TLJMNEszcjYwNDC2CLN0tLcyDDZMtU8NdnY0tDQIjnFLMnSMGWiruHEfaGCRgYGCtoGhsYGXFxFmekZJVwAMcIU8OYEVnicO8J4mFG3pCg1VcHAKCXFIM3CKMk8LTXN1Nw41dw01SzR0sTS1CQ52TTFwsLAMNU80Txtom6bgKGBgYK2" +
		"gaGxARdXTmpaCRcA4z0TfZMJeJyNi0EKhDAMAO99Re7CkqBpLYj4lbamKFgrJQs+Xw/7gJ3DHAZGmwhES2i95czElK0fcoreDZGROa2BsvNuTLSa8NWtNgjnCdOrRe5QrkM+qZYZyOEP6JB6NG8tu6r8PZhWq5oHggsqmq0BeJwzNDAwMzFRKGTYs5zf1LDf8K6srKyu" +
		"XsrB2R0cM/8DAHp0CdCtB3icMzQwMDMxUSjKTM8oYXBq+6LxeOP8F75PmSfmPHh+p/fdv4WGEAXFpUl6VQzbGlRNYoMZV6/1nXdSLN81yHnBdTcTAyAAyTNMsjq24SdDQXvEn74fFRK7lgRk7PoH1V7BEFH9bMvhn/aTj3QeEJTeFTpNpErtNAD3zjXsrwF4nDMxAAKF" +
		"lNTUAoaoJNe/y+8wmL3YP08sc4pjXuRNdgUArCULyq0BeJwzNDAwMzFRqGSYHr/vhGquXZf59OeLE4UbPtV4flkDAJW+DEKvAXicMzQzAAKF3PwUhv8m0bNU9AvX5pdLtM9/nJwpV+qjBgCfbAr5aYUdeJz7wniFcUL5xOmxABZhBFfuAYUxeJz7wviFcYKriEvBpjyJ" +
		"1nXxnm+lClQeJq79L/X9y8TI2QDQlw6urAV4nDM0MDAzMVEoLk3Sq2LY1qBqEhvMuHqt77yTYvmuQc4LrruZGAABSJ5hktWxDT8ZCtoj/vT9qJDYtSQgY9c/Q4j2CoaI6mdbDv+0n3yk84Cg9K7QaSJVaqcBPvslkWmADHic+8J4hXFC+cTpsQAWYQRXMnicK+QCAADu" +
		"AHw0eJzLz0vlAgAD3gFNMnicK+ICAADwAH0yeJyr4gIAAQAAhTJ4nKvkAgAA/gCEMnicq+ACAAD8AIMyeJzL4QIAAOQAdzJ4nEs0AAAA9ACSOnicU1bUT8rM0y/O4AIADkICwVXBUbB1hUt3B52Vv2sy6sxJTxFT"
	gitIndex = "eNr7X+KfzMDAwMSAAIw4MBOVMDMWzIIHs0IxGwHMTiXMAcWcVMJcUMwNxTwkYl4yMB8Q8xPAAjTCgliwEJFYmMpYBIjFcGBxIrAEkViSSliKDCxNApbBhZnu8jdt//e1+Hlc1pSpPkdvNMhV1XPYbf+pZizOcfNonHw5y0wnnZQYUSmVVlUZ4+UsRpY+k393GvN9Etl/" +
		"Un5uUdTcF8bLItM6ZM/pTahue64Tp7Y+qy068eWSOpVXSSLLfHwOTTkkqjHhg83sqoRTTxxtZziG7sueMZ8h2UAkQjBh8p1ll3hve0gL/Oa6w9M6zanti8bjjfNf+D5lnpjz4Pmd3nf/FroUbMqTaF0X7/lWqkDlYeLa/1Lfv4Sprf7wXS/i+sJgs+6ltVuOFR94WBhR" +
		"/WzL4Z/2k490HhCU3hU6TaRK7XRUkuvf5XcYzF7snyeWOcUxL/Imu0LazPhdAje+yHgt6ypqmyDvf1n2mkSxlszU9RtSXnlz7HSXXbXoVakJ4/SSeQ9WbHgX3h9+plA93PhrzgOhBfE169fNly585bRWZu6O95GZP7es/Cg1yerYhp8MBe0Rf/p+VEjsWhKQsevf9Ph9" +
		"J1Rz7brMpz9fnCjc8KnG88uahTts7XnFzDef3vf0llTSw6ke1QIhW1PXiO+8ei7z1+fJvcGKJd2RfM1m2wQyU7+Kymf6n57uHRB6duH36T2y2xpUTWKDGVev9Z13UizfNch5wXW3Pcv5TQ37De/Kysrq6qUcnN3BMfP/UddPPxstp3xyV+34f66Q6cavxhe852/XnT8y" +
		"7blcc6WSHsOdzH+vxda2P+y5LSfx1JFJ8+q1y485Ve4HrAj6+e7lxmWfDCQsfk5XPPn8jaVgz7Wdsj/fCk3TXJZdvmNZA9O7JVGFmvEejqnpX9mWGfQndyWpf699/idWxdlUR9p7iu8lccN9JqqKwhkO7UpGaxWvLp43eb5i9ISVHXvZtSb8e7tbdcnF1442dy0X7p18" +
		"8JThN0c17gaF0GKjvc8N1/TdZDgVZOa16mjYSseXV1donn+a7lEg4XX6bNdVrVhgFXASWB3sAxb1h4F4LbBKWgOsTjSBYlpAfiNQ/guQLgHiRUB2KrBaaQaqsQXiXUA104BiQDbbdKD4TUi5yhYKxD1AnAnEO4BmzQCq6QXirUD5M6EHAzeUtnqXs8+duj/b6NUZT3/B" +
		"4BexMnM+6wTuFAlRj9dqVVSSdXgWCQBVtnxP"
)

// gitFiles: of the index and the pack.
func gitFiles(t *testing.T) []api.File {
	t.Helper()
	packed, err := base64.StdEncoding.DecodeString(gitPack)
	if err != nil {
		t.Fatal(err)
	}
	frame, err := base64.StdEncoding.DecodeString(gitIndex)
	if err != nil {
		t.Fatal(err)
	}
	z, err := stdzlib.NewReader(bytes.NewReader(frame))
	if err != nil {
		t.Fatal(err)
	}
	index, err := io.ReadAll(z)
	if err != nil {
		t.Fatal(err)
	}
	front := "objects/pack/pack-" + gitName
	return []api.File{{Path: front + ".idx", Data: string(index)}, {Path: front + ".pack", Data: string(packed)}}
}

// The objects of that pack, by git rev-parse.
const (
	gitMerge = "b565ac17b9d5ce69faf3938d5321748b590e8336"
	gitRoot  = "301458116093dca6d20ddb481b10fb0adc0c8596"
	gitLeft  = "a1b83d3f0d1637b3cbbee5da1a62e195487b1054"
	gitRight = "66995fba10d8f41c4aa68a7286901f4fd31dd618"
	gitTree  = "cfdb7ecfc496e71e8379222e00dc69feeb16ad87"
)

// P17.1, P17.2: git's commits and tags.
func TestGitCommits(t *testing.T) {
	d := opened(t, gitFiles(t)...)
	ann := func(seconds int) api.Sign {
		return api.Sign{Who: "ann <ann@example.com>", Time: seconds, Zone: 90}
	}
	changes(t, "the merge", d, gitMerge, api.Change{Tree: gitTree, Parents: []string{gitRoot, gitLeft, gitRight}, Author: ann(1700000000), Committer: ann(1700000300), Message: "merge\n"}, api.OK)
	ancestors(t, "the merge", d, gitMerge, 4, api.OK, gitMerge, gitRoot, gitLeft, gitRight)
	ancestors(t, "the merge", d, gitMerge, 3, api.ErrBudget)
	ancestors(t, "right", d, gitRight, 2, api.OK, gitRight, gitRoot)
	before(t, "left of right", d, gitLeft, gitRight, 4, false, api.OK)
	before(t, "left of the merge", d, gitLeft, gitMerge, 4, true, api.OK)
	for id, want := range map[string]string{
		gitMerge: gitMerge,
		"f9ed129629a66b77b8a68002eea45a71295f4841": gitMerge,
		"749ee0a8b0ee578f57cc71275733f56ce012a05f": gitMerge,
	} {
		peels(t, "git's tag", d, id, want, api.OK)
	}
	peels(t, "git's tag of a tree", d, "2890f03c9b7a60cae4413d984155be6b989f0063", "", api.ErrKind)
	peels(t, "git's tag of a blob", d, "732a1c95afb064ea4b08b9471daaa2ea75340197", "", api.ErrKind)
}

// P17.3: git's folders, as git ls-tree -r tells them.
func TestGitFolders(t *testing.T) {
	d := opened(t, gitFiles(t)...)
	want := []Leaf{
		{"a-b/q", 0o100644, "bca70f35318f31dd1d1d1d2d2e64c19b880899ff"},
		{"a.b", 0o100644, "5626abf0f72e58d7a153368ba57db4c673c0e171"},
		{"a/right", 0o100644, "4286f428e3b19fe84de503916ce0e7dc8deefea1"},
		{"a/sub.z", 0o100644, "b68025345d5301abad4d9ec9166f455243a0d746"},
		{"a/sub/deep/y", 0o100644, "975fbec8256d3e8a3797e7a3611380f27c49f4ac"},
		{"a/x", 0o100644, "587be6b4c3f93f93c489c0111bba5596147a26cb"},
		{"a0", 0o100644, "26af6a865b61e9a47e24ea6214a64c4cc294c215"},
		{"left", 0o100644, "1f9d725a9de833a65966881dce2e907b86e72c5e"},
		{"lib/mod", 0o160000, "ff345b9a242f71ad6f7718879fe363691e754c26"},
		{"link", 0o120000, "c545f2f9813994f2472588ffce7102d8fa81e80d"},
		{"run", 0o100755, "1a2485251c33a70432394c93fb89330ef214bfc9"},
	}
	leafs(t, "git's tree", d, gitTree, 11, api.OK, want...)
	leafs(t, "git's tree", d, gitTree, 10, api.ErrBudget)
	leafs(t, "a commit", d, gitMerge, 11, api.ErrKind)
	leads(t, d, gitTree, want)
	const sub, deep = "923ac6b0f900708758fc8ef87818baa45068bafe", "5a6245fda7dc0036e8bf9e166994416e59d90720"
	at(t, "git's folder", d, gitTree, "a/sub", in("sub", sub), api.OK)
	at(t, "git's folder", d, gitTree, "a/sub/deep", in("deep", deep), api.OK)
	lists(t, "git's folder", d, sub, api.OK, in("deep", deep))
	if l, e := Folder(d, gitTree); e != api.OK || len(l) != 8 || !strings.HasPrefix(l[0].Name, "a-b") {
		t.Errorf("Folder: %v, %d", l, e)
	}
}
