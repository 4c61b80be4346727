package book

import (
	"math/bits"

	"aguador/api"
)

// Where the bytes of the file begin on a sheet, and where its sum stands.
const (
	dataAt = 3
	sumAt  = dataAt + api.SheetData
)

// lengthBase is that of the two digits of a file's length.
const lengthBase = 256

// data is the bytes of a file that a sheet has.
type data [api.SheetData]byte

// sheet is the bytes of a sheet.
type sheet [api.SheetBytes]byte

// question is what a sheet is asked.
type question struct{ holds func(x sheet) bool }

// questions are those to which a sheet that is right says yes.
func questions() [4]question {
	return [...]question{{sheet.isSummed}, {sheet.isShort}, {sheet.isCounted}, {sheet.isFilled}}
}

func sum(s string) byte {
	var n byte
	for i := range len(s) {
		n = bits.RotateLeft8(n, 1) ^ s[i]
	}
	return n
}

// dataSheets returns how many data sheets a file has: as many as the index of its spare one.
func dataSheets(length int) int { return (length + api.SheetData - 1) / api.SheetData }

func xored(a, b data) data {
	for i := range len(a) {
		a[i] ^= b[i]
	}
	return a
}

// newSheet returns a sheet with its sum.
func newSheet(index, length int, bytes data) sheet {
	x := sheet{byte(index), byte(length % lengthBase), byte(length / lengthBase)}
	copy(x[dataAt:], bytes[:])
	x[sumAt] = x.sum()
	return x
}

// toSheet returns the sheet of some bytes, and whether it is right.
func toSheet(s string) (sheet, bool) {
	var x sheet
	if len(s) != len(x) {
		return x, false
	}
	copy(x[:], s)
	return x, x.isRight()
}

func (x sheet) index() int { return int(x[0]) }

func (x sheet) length() int { return int(x[1]) + lengthBase*int(x[2]) }

func (x sheet) bytes() data {
	var l data
	copy(l[:], x[dataAt:])
	return l
}

func (x sheet) sum() byte { return sum(string(x[:sumAt])) }

func (x sheet) isRight() bool {
	for _, q := range questions() {
		if !q.holds(x) {
			return false
		}
	}
	return true
}

func (x sheet) isSummed() bool { return x[sumAt] == x.sum() }

// isShort reports whether the sheet is of a file that is not too long.
func (x sheet) isShort() bool { return x.length() <= api.MaxFile }

// isCounted reports whether the file has a sheet with this index.
func (x sheet) isCounted() bool { return x.index() <= dataSheets(x.length()) }

// isFilled reports whether the bytes behind the file's end are 0, if this is a data sheet.
func (x sheet) isFilled() bool {
	if x.index() >= dataSheets(x.length()) {
		return true
	}
	left := x.length() - x.index()*api.SheetData
	for i, b := range x.bytes() {
		if i >= left && b != 0 {
			return false
		}
	}
	return true
}

// sheetsOf returns all sheets of a file, the spare one behind all others.
func sheetsOf(s string) []sheet {
	var l []sheet
	var spare data
	for i := range dataSheets(len(s)) {
		var bytes data
		copy(bytes[:], s[i*api.SheetData:])
		l = append(l, newSheet(i, len(s), bytes))
		spare = xored(spare, bytes)
	}
	return append(l, newSheet(len(l), len(s), spare))
}
