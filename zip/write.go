package zip

import (
	"strings"

	"cartulary/api"
	"cartulary/sums"
)

// Write: the archive of these files, all stored.
func Write(files []api.File) (string, api.Errno) {
	if e := Check(files); e != api.OK {
		return "", e
	}
	var locals, heads strings.Builder
	for _, f := range files {
		told := factsOf(f).text()
		heads.WriteString(centralStart + told + noMore + number(locals.Len(), long) + f.Path)
		locals.WriteString(localStart + told + f.Path + f.Data)
	}
	count := number(len(files), short)
	end := endStart + count + count + number(heads.Len(), long) + number(locals.Len(), long) + noRemark
	return locals.String() + heads.String() + end, api.OK
}

// factsOf: those of a file that is stored.
func factsOf(f api.File) facts {
	return facts{method: stored, crc: sums.Crc32(f.Data), follow: len(f.Data), size: len(f.Data), pathSize: len(f.Path)}
}

// text: the facts as they stand in a head.
func (x facts) text() string {
	return factsStart + number(x.method, short) + noTime + number(int(x.crc), long) +
		number(x.follow, long) + number(x.size, long) + number(x.pathSize, short) + noExtra
}

// number: x in n bytes.
func number(x, n int) string {
	return sums.Little(uint64(x), n)
}
