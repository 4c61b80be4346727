package book

import (
	"maps"
	"slices"

	"aguador/api"
)

// torn is what is there of a file: how long it is, and those of its sheets that are right, by their indices.
type torn struct {
	length int
	sheets map[int]sheet
}

// gather returns what the right sheets of some copies tell.
func gather(copies ...[]string) (torn, api.Errno) {
	t := torn{sheets: map[int]sheet{}}
	for _, l := range copies {
		for _, s := range l {
			if x, right := toSheet(s); right && !t.put(x) {
				return torn{}, api.ErrClash
			}
		}
	}
	if len(t.sheets) == 0 {
		return torn{}, api.ErrNone
	}
	return t, api.OK
}

// put puts in a right sheet, and reports whether it does not clash with those that are there. The first one tells how long the file is.
func (t *torn) put(x sheet) bool {
	if len(t.sheets) == 0 {
		t.length = x.length()
	}
	other, isThere := t.sheets[x.index()]
	if x.length() != t.length || isThere && x != other {
		return false
	}
	t.sheets[x.index()] = x
	return true
}

// lost returns the indices of the sheets that are not there, in increasing order.
func (t torn) lost() []int {
	left := map[int]bool{}
	for i := range dataSheets(t.length) + 1 {
		left[i] = true
	}
	for i := range t.sheets {
		delete(left, i)
	}
	return slices.Sorted(maps.Keys(left))
}

// mend makes the sheet that is lost, if one is, and reports whether all are those of one file then. All sheets of a file xored are 0s, so that each one is the others xored.
func (t torn) mend(lost []int) bool {
	var rest data
	for _, x := range t.sheets {
		rest = xored(rest, x.bytes())
	}
	if len(lost) == 0 {
		return rest == data{}
	}
	made := newSheet(lost[0], t.length, rest)
	t.sheets[lost[0]] = made
	return made.isRight()
}

// file returns the bytes of all data sheets, none of which is lost, up to the file's end.
func (t torn) file() string {
	var l []byte
	for i := range dataSheets(t.length) {
		bytes := t.sheets[i].bytes()
		l = append(l, bytes[:]...)
	}
	return string(l[:t.length])
}

// whole returns the file of the sheets of some copies.
func whole(copies ...[]string) (string, api.Errno) {
	t, e := gather(copies...)
	if e != api.OK {
		return "", e
	}
	lost := t.lost()
	if len(lost) > 1 {
		return "", api.ErrLost
	}
	if !t.mend(lost) {
		return "", api.ErrClash
	}
	return t.file(), api.OK
}
