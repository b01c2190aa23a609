package odb

import (
	"encoding/hex"
	"fmt"
	"slices"
	"strings"
	"testing"

	"cartulary/api"
	"cartulary/packidx"
)

// A pack of git's making, cut where bases are told: three commits, their trees, their blobs (two of them deltas, on one another), a tag.
const (
	gitFront = "5041434b000000020000000a960a789c7dca310e42210c00d09d53b0bb1428501263f4282d6da2c317436abcbe8bb36f7ebecde280c2444" +
		"33bd744050da74211e992aa25e206b382964ee1c5db9e1eb51b36904c4d8c1164e69cd134d91c04d87468d38ed002bffdbe76bcc5335fe51253879f78820410e63a8e87bbfd29c13f2b7c01008b2c1c" +
		"ad01789c3334303033315148635826a7762046bb77f54aee8b2db6df4cebd2adcec40100881f0ad9" +
		"b710789c0dca3b0e41511400c0de2aee12def9f92c47824481048ddd9b62bab9dddf9fef8a6d23488a66d873e0c8694578e185175e78e185175e78e1a5975e7ae9a5975e7ae9a5975e79e595575e79e595575e79e5b5d75e7bedb5d75e7bedb5d7de78e38d37de78e38d37de78e3edb7757e5ed6effa5d8fd7fbbafb038de832a2"
	gitFirst = "789c6b67facb3891ed076b6e7e512a1700241f04d9" +
		"ad01789c33343030333151486398f280fd05b7a267ddeaaba95cbb8ffedcfcd074ca6d0094540cac" +
		"ad01789c333430303331514863a8610973d334b8d07dc97adecbbde7d99ede6539630b0087cc0b7b"
	gitSecond = "789cfbcbf88571c267462e0012d90382" +
		"9607789c7dca310e80200c05d09d53747729d20826c6e851287ea2039210bcbf8bb36f7ebd01e4e7c98ac4a09931aa64992394b3b810303987e42de3486ae2d3cfda68a7256eba92f5fca1812db349b594ab77fc14536f9817acc71f24" +
		"980a789c7dce310ec2300c40d13da7c8ce62bbb1934a08c1519cc451194a5164ee4f0766fefc86efd32c165904d11219ac19a8810a504d4d4767c662d22d97612dbc75dacb23209f8a15656d9884c7c2823d6b25aabcc890d288494ad08f6fc78c8f78d57bbd45ccf02b5e0001423bf6fde96e7f48f0ed5c0c5f1ca62c42" +
		"ca06789c2dca4d0a84300c40e17d4e91fd6c12fb130a223347696b220aa24811bcbd23f836dfe66d65d1dad0c477a16a71d18ab724362a771aa3238b264943482c3e3968d7ae58b7759d1bb43ce1c90f931ef8c33e7fcb802cf4861f6222808cff056e916c1d70"
)

// gitRow is what git tells of an object: its name, kind and size, and place and cyclic sum where bases are told by their places and by their names.
type gitRow struct {
	id              string
	kind, size      int
	byPlace, byName packidx.Row
}

// gitRows: as git show-index and git cat-file tell them.
func gitRows() []gitRow {
	l := []gitRow{
		{"01502c5a169c1465f3561d7ab22b536f68c25268", 1, 166, packidx.Row{At: 12, Crc: 0xdb2ee87b}, packidx.Row{At: 12, Crc: 0xdb2ee87b}},
		{"796144a8bf0e2b4f49aeb0f4388e633ec710edcb", 2, 29, packidx.Row{At: 135, Crc: 0x84fd8f40}, packidx.Row{At: 135, Crc: 0x84fd8f40}},
		{"7c0456462930d08bd23b9ee9bdcf06e5dd04cc3d", 3, 253, packidx.Row{At: 304, Crc: 0x2619139a}, packidx.Row{At: 304, Crc: 0xbdda0caf}},
		{"863611e42e09702c0a602b4cafd5518e6de78fec", 2, 29, packidx.Row{At: 328, Crc: 0x7918928d}, packidx.Row{At: 346, Crc: 0x7918928d}},
		{"903a889d7a51834e4cd03bb7b15e18a60c50d378", 2, 29, packidx.Row{At: 368, Crc: 0x64e37bfe}, packidx.Row{At: 386, Crc: 0x64e37bfe}},
		{"94e007e80b21497eabd5650abbc5f9b3e13594db", 3, 263, packidx.Row{At: 175, Crc: 0xfc6a6460}, packidx.Row{At: 175, Crc: 0xfc6a6460}},
		{"a61e26c05c2b8daba90bd1843df6357e673acc5e", 3, 244, packidx.Row{At: 408, Crc: 0x66165e0e}, packidx.Row{At: 426, Crc: 0x7094ee47}},
		{"d7e460b286bea40bc2224ed1ec98046d9d6d7406", 1, 118, packidx.Row{At: 426, Crc: 0x8529809d}, packidx.Row{At: 463, Crc: 0x8529809d}},
		{"f7425ceb36fb4f97fde12e6630f6f79e55917493", 1, 168, packidx.Row{At: 519, Crc: 0xc12ea386}, packidx.Row{At: 556, Crc: 0xc12ea386}},
		{"ff345b9a242f71ad6f7718879fe363691e754c26", 4, 106, packidx.Row{At: 645, Crc: 0x3664154a}, packidx.Row{At: 682, Crc: 0x3664154a}},
	}
	for i := range l {
		l[i].byPlace.Id, l[i].byName.Id = l[i].id, l[i].id
	}
	return l
}

// P13.1, P13.2: packs and indexes as git makes them, with deltas told by place and by name.
func TestGit(t *testing.T) {
	rows := gitRows()
	const byPlace, byName = "9fd837553edf2d327910f54c788e0c18602c4c64", "8791c2c809c496c8efdc6fa4fbfa43b1e92b07ba"
	for _, c := range []struct {
		digits, sum, indexSum string
		row                   func(x gitRow) packidx.Row
	}{
		{gitFront + "6d8001" + gitFirst + "6868" + gitSecond + byPlace, byPlace, "0697368b62c117df80d328c658207506c64b261a", func(x gitRow) packidx.Row { return x.byPlace }},
		{gitFront + "7d" + rows[5].id + gitFirst + "78" + rows[2].id + gitSecond + byName, byName, "c220acc672c885d7a3312ad8484e22010c7a386e", func(x gitRow) packidx.Row { return x.byName }},
	} {
		packed, err := hex.DecodeString(c.digits)
		if err != nil {
			t.Fatal(err)
		}
		var l []packidx.Row
		var ids []string
		for _, x := range rows {
			l, ids = append(l, c.row(x)), append(ids, x.id)
		}
		idx := index(l, c.sum)
		if sum := hex.EncodeToString([]byte(idx[len(idx)-20:])); sum != c.indexSum {
			t.Errorf("git's index has the sum %s, not %s", c.indexSum, sum)
		}
		d := opened(t, pair(c.sum, idx, string(packed))...)
		names(t, d, "", ids...)
		for _, x := range rows {
			o, e := d.Get(x.id)
			if e != api.OK || o.Kind != x.kind || len(o.Data) != x.size || nameOf(o) != x.id {
				t.Errorf("Get(%s): %d, %d bytes, %d", x.id, o.Kind, len(o.Data), e)
			}
			has(t, "git's pack", d, o)
			resolves(t, d, x.id[:7], x.id, api.OK)
		}
		texts(t, d)
	}
}

// texts holds git's blobs and its tag against what was handed to git.
func texts(t *testing.T, d *Odb) {
	t.Helper()
	var numbers []string
	for i := 100; i <= 160; i++ {
		numbers = append(numbers, fmt.Sprint(i))
	}
	base := strings.Join(numbers, " ")
	for _, text := range []string{base + "\n", base + " and more\n", "first " + base + " and yet more\n"} {
		has(t, "git's blob", d, blob(text))
	}
	s, e := d.Kind("ff345b9a242f71ad6f7718879fe363691e754c26", api.Tag)
	lines := strings.Split(s, "\n")
	if e != api.OK || !slices.Contains(lines, "tag v1") || !slices.Contains(lines, "object f7425ceb36fb4f97fde12e6630f6f79e55917493") {
		t.Errorf("git's tag: %q, %d", s, e)
	}
}
