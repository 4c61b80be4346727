package book_test

import (
	"encoding/binary"
	"reflect"
	"slices"
	"strings"

	"aguador/api"
)

// rowOf is a row of numbers, none of them below 0. Varints of the library are the same bytes.
func rowOf(l ...int) string {
	var b []byte
	for _, n := range l {
		b = binary.AppendUvarint(b, uint64(n))
	}
	return string(b)
}

// numbersOf is the numbers of a row, and whether it is one.
func numbersOf(s string) (l []int, is bool) {
	for len(s) > 0 {
		n, many := binary.Uvarint([]byte(s))
		if many <= 0 || n > api.MaxNumber || rowOf(int(n)) != s[:many] {
			return nil, false
		}
		l = append(l, int(n))
		s = s[many:]
	}
	return l, true
}

// flat is all numbers of a value, in the order of its fields; before those of a list it has how many they are.
func flat(x any) []int { return flatValue(reflect.ValueOf(x)) }

func flatValue(v reflect.Value) (l []int) {
	switch v.Kind() {
	case reflect.Int:
		return ints(int(v.Int()))
	case reflect.Uint8:
		return ints(int(v.Uint()))
	case reflect.Slice:
		l = ints(v.Len())
		for i := range v.Len() {
			l = append(l, flatValue(v.Index(i))...)
		}
	case reflect.Struct:
		for i := range v.NumField() {
			l = append(l, flatValue(v.Field(i))...)
		}
	}
	return l
}

// recordOf is the record of a value of a kind, valid or not.
func recordOf(of int, x any) string { return rowOf(append(ints(of), flat(x)...)...) }

// firstOf is the first number of the records of each kind.
func firstOf(x any) int {
	switch x.(type) {
	case api.Spring:
		return api.OfSpring
	case api.Town:
		return api.OfTown
	case api.Jar:
		return api.OfJar
	}
	return api.OfTally
}

// roomy is a value that shares no memory with another one, with memory behind the ends of its lists.
func roomy(x any) any { return roomyValue(reflect.ValueOf(x)).Interface() }

func roomyValue(v reflect.Value) reflect.Value {
	z := reflect.New(v.Type()).Elem()
	z.Set(v)
	switch v.Kind() {
	case reflect.Slice:
		z.Set(reflect.MakeSlice(v.Type(), v.Len(), v.Len()+3))
		for i := range v.Len() {
			z.Index(i).Set(roomyValue(v.Index(i)))
		}
	case reflect.Struct:
		for i := range v.NumField() {
			z.Field(i).Set(roomyValue(v.Field(i)))
		}
	}
	return z
}

// whole is a value with all memory behind its lists in them.
func whole(x any) any {
	z := reflect.New(reflect.TypeOf(x)).Elem()
	z.Set(reflect.ValueOf(x))
	for i := range z.NumField() {
		if f := z.Field(i); f.Kind() == reflect.Slice {
			f.Set(f.Slice(0, f.Cap()))
		}
	}
	return z.Interface()
}

// places is where the numbers of a value are, which can be set there; whoever else has its lists sees it.
func places(v reflect.Value) (l []reflect.Value) {
	switch v.Kind() {
	case reflect.Int, reflect.Uint8:
		return []reflect.Value{v}
	case reflect.Slice:
		for i := range v.Len() {
			l = append(l, places(v.Index(i))...)
		}
	case reflect.Struct:
		for i := range v.NumField() {
			l = append(l, places(v.Field(i))...)
		}
	}
	return l
}

// settable is a copy of a value, of which numbers can be set.
func settable(x any) reflect.Value {
	z := reflect.New(reflect.TypeOf(x)).Elem()
	z.Set(reflect.ValueOf(roomy(x)))
	return z
}

// setTo puts a number in a place, as far as it goes into it.
func setTo(v reflect.Value, n int) {
	if v.Kind() == reflect.Uint8 {
		v.SetUint(uint64(n % 256))
		return
	}
	v.SetInt(int64(n))
}

// packed is a file of several strings, however long.
func packed(l []string) string {
	head := ints(len(l))
	for _, s := range l {
		head = append(head, len(s))
	}
	return rowOf(head...) + strings.Join(l, "")
}

// sumOf is the sum of bytes, by doubling.
func sumOf(s string) int {
	n := 0
	for _, b := range []byte(s) {
		n *= 2
		if n > 255 {
			n -= 255
		}
		n ^= int(b)
	}
	return n
}

// summed is a sheet of 19 bytes, with its sum.
func summed(s string) string { return s + bytes(byte(sumOf(s))) }

// sheetOf is a sheet with these bytes of a file, behind which there are 0s.
func sheetOf(index, length int, text string) string {
	text += strings.Repeat("\x00", 16-len(text))
	return summed(bytes(byte(index), byte(length%256), byte(length/256)) + text)
}

// sheetsOf is all sheets of a file.
func sheetsOf(s string) (l []string) {
	spare := make([]byte, 16)
	for i, b := range []byte(s) {
		spare[i%16] ^= b
	}
	length := len(s)
	for len(s) > 0 {
		many := min(16, len(s))
		l = append(l, sheetOf(len(l), length, s[:many]))
		s = s[many:]
	}
	return append(l, sheetOf(len(l), length, string(spare)))
}

// lengthOf is what a sheet tells as the file's length, dataOf how many data sheets this needs.
func lengthOf(sheet string) int { return int(sheet[1]) + int(sheet[2])*256 }

func dataOf(length int) (many int) {
	for many*16 < length {
		many++
	}
	return many
}

// isRight is whether a sheet is right.
func isRight(s string) bool {
	if len(s) != 20 || sumOf(s[:19]) != int(s[19]) || lengthOf(s) > 960 {
		return false
	}
	index, data := int(s[0]), dataOf(lengthOf(s))
	if index != data-1 {
		return index <= data
	}
	return strings.Trim(s[3+lengthOf(s)-16*index:19], "\x00") == ""
}

// known is what sheets tell: their file, and which ones are lost, each with its error.
type known struct {
	file           string
	lost           []int
	ofFile, ofLost api.Errno
}

// learned is what is known of sheets. A file is tried out: it is the one if all sheets that are right are sheets of it.
func learned(l []string) known {
	byIndex := map[int]string{}
	length := -1
	for _, s := range l {
		if !isRight(s) {
			continue
		}
		if other := byIndex[int(s[0])]; other != "" && other != s || length >= 0 && length != lengthOf(s) {
			return known{ofFile: api.ErrClash, ofLost: api.ErrClash}
		}
		byIndex[int(s[0])] = s
		length = lengthOf(s)
	}
	if length < 0 {
		return known{ofFile: api.ErrNone, ofLost: api.ErrNone}
	}
	k := known{}
	for i := range dataOf(length) + 1 {
		if byIndex[i] == "" {
			k.lost = append(k.lost, i)
		}
	}
	if len(k.lost) > 1 {
		k.ofFile = api.ErrLost
		return k
	}
	file := tried(byIndex, length)
	for _, s := range byIndex {
		if !slices.Contains(sheetsOf(file), s) {
			k.ofFile = api.ErrClash
			return k
		}
	}
	k.file = file
	return k
}

// tried is the one file that these sheets, all but one at most, can be of: each byte of a data sheet that is not there is looked for, until all that stand there come to that of the spare sheet.
func tried(byIndex map[int]string, length int) string {
	var file []byte
	for at := range length {
		if s := byIndex[at/16]; s != "" {
			file = append(file, s[3+at%16])
			continue
		}
		for b := range 256 {
			n := byte(b)
			for _, s := range byIndex {
				n ^= s[3+at%16]
			}
			if n == 0 {
				file = append(file, byte(b))
			}
		}
	}
	return string(file)
}

// patchesOf is all patches by which one file becomes another one.
func patchesOf(a, b string) (l []api.Patch) {
	for at := range len(a) + 1 {
		for cut := range len(a) - at + 1 {
			front, back := a[:at], a[at+cut:]
			if many := len(b) - len(front) - len(back); many >= 0 && strings.HasPrefix(b, front) && strings.HasSuffix(b, back) {
				l = append(l, api.Patch{At: at, Cut: cut, Add: b[at : at+many]})
			}
		}
	}
	return l
}
