package packidx

import (
	"strings"

	"cartulary/api"
	"cartulary/pack"
	"cartulary/sha"
	"cartulary/sums"
)

// Parse: the index of a file's bytes.
func Parse(s string) (*Idx, api.Errno) {
	t, e := tablesOf(s)
	if e != api.OK {
		return nil, e
	}
	x := &Idx{sum: sums.Hex(t.sum)}
	for i := range t.ends[counts-1] {
		row, e := t.row(i)
		if e != api.OK {
			return nil, e
		}
		x.rows = append(x.rows, row)
	}
	end := len(s) - sumBytes
	if sha.Sum1(s[:end]) != s[end:] {
		return nil, api.ErrSum
	}
	return x, api.OK
}

// tables are the parts of an index's bytes.
type tables struct {
	// ends has, for each first byte, the number of the first row behind the names with it.
	ends                              [counts]int
	names, crcs, places, distant, sum string
}

// tablesOf: the parts, if they have the lengths that they must have.
func tablesOf(s string) (tables, api.Errno) {
	var t tables
	if len(s) < least {
		return tables{}, api.ErrEnd
	}
	if !strings.HasPrefix(s, start) {
		return tables{}, api.ErrText
	}
	for i := range t.ends {
		t.ends[i] = int(number(s[len(start):], i, numberBytes))
		if i > 0 && t.ends[i] < t.ends[i-1] {
			return tables{}, api.ErrText
		}
	}
	n := t.ends[counts-1]
	if n > pack.MaxEntries {
		return tables{}, api.ErrBig
	}
	if len(s) < least+rowBytes*n {
		return tables{}, api.ErrEnd
	}
	if (len(s)-least-rowBytes*n)%farBytes != 0 {
		return tables{}, api.ErrText
	}
	s = s[headBytes : len(s)-sumBytes]
	t.names, s = s[:nameBytes*n], s[nameBytes*n:]
	t.crcs, s = s[:numberBytes*n], s[numberBytes*n:]
	t.places, s = s[:numberBytes*n], s[numberBytes*n:]
	t.distant, t.sum = s[:len(s)-sumBytes], s[len(s)-sumBytes:]
	return t, api.OK
}

// number: the one at a place of a table whose numbers have so many bytes each.
func number(table string, i, bytes int) uint64 {
	return sums.FromBig(table[bytes*i : bytes*(i+1)])
}

// row: row i, if its name and its place are right.
func (t *tables) row(i int) (Row, api.Errno) {
	name := t.name(i)
	if i > 0 && name <= t.name(i-1) || !t.stands(name[0], i) {
		return Row{}, api.ErrText
	}
	place := number(t.places, i, numberBytes)
	if place >= farFrom {
		k := int(place - farFrom)
		if k >= len(t.distant)/farBytes {
			return Row{}, api.ErrText
		}
		place = number(t.distant, k, farBytes)
	}
	if place > MaxPlace {
		return Row{}, api.ErrBig
	}
	crc := number(t.crcs, i, numberBytes)
	return Row{Id: sums.Hex(name), At: int(place), Crc: uint32(crc)}, api.OK
}

// name: that of row i, as bytes.
func (t *tables) name(i int) string {
	return t.names[nameBytes*i : nameBytes*(i+1)]
}

// stands: does row i stand where the ends say that names with this first byte do?
func (t *tables) stands(first byte, i int) bool {
	begin := 0
	if first > 0 {
		begin = t.ends[first-1]
	}
	return begin <= i && i < t.ends[first]
}
