package book

import (
	"iter"
	"strings"

	"aguador/api"
)

// base is that of the digits; a byte that is not below it is not the last one of its number.
const base = 128

// written returns numbers, none of them below 0, as a row.
func written(numbers ...int) string {
	var l []byte
	for _, n := range numbers {
		for n >= base {
			l = append(l, byte(n%base+base))
			n /= base
		}
		l = append(l, byte(n))
	}
	return string(l)
}

// noRow is thrown where bytes are not what they ought to be.
type noRow struct{}

// row is bytes that ought to be numbers, one behind the other.
type row string

// numberAt returns the number at an index, and the index behind it.
func (s row) numberAt(at int) (n, behind int) {
	worth := 1
	for i := at; i < len(s) && worth <= api.MaxNumber; i++ {
		digit := int(s[i]) % base
		n += digit * worth
		worth *= base
		if s[i] >= base {
			continue
		}
		if n > api.MaxNumber || digit == 0 && i > at {
			break
		}
		return n, i + 1
	}
	panic(noRow{})
}

// numbers yields those of all bytes.
func (s row) numbers() iter.Seq[int] {
	return func(yield func(int) bool) {
		for at := 0; at < len(s); {
			n, behind := s.numberAt(at)
			if !yield(n) {
				return
			}
			at = behind
		}
	}
}

// reader reads a row from an index on.
type reader struct {
	row
	at int
}

// next returns the next number.
func (r *reader) next() int {
	n, behind := r.numberAt(r.at)
	r.at = behind
	return n
}

// take returns the next bytes, which need not be numbers.
func (r *reader) take(many int) string {
	if many > len(r.row)-r.at {
		panic(noRow{})
	}
	s := strings.Clone(string(r.row[r.at : r.at+many]))
	r.at += many
	return s
}

// list returns as many things as the next number tells.
func list[T any](next func() int, one func() T) []T {
	var l []T
	for range next() {
		l = append(l, one())
	}
	return l
}

// read returns what is told of a row, or an error if it is thrown meanwhile that it is none. Whatever else is thrown is a mistake of the program, which must not pass for bytes that are no row.
func read[T any](s string, err api.Errno, tell func(r *reader) T) (x T, e api.Errno) {
	defer func() {
		switch z := recover().(type) {
		case nil:
		case noRow:
			e = err
		default:
			panic(z)
		}
	}()
	return tell(&reader{row: row(s)}), api.OK
}

// readBack returns what bytes were written of, or an error if it is not what is told of them: then it cannot be written, of which nothing comes, or other bytes come of it.
func readBack[T any](s string, err api.Errno, write func(x T) (string, api.Errno), tell func(r *reader) T) (T, api.Errno) {
	return read(s, err, func(r *reader) T {
		x := tell(r)
		if again, _ := write(x); again != s {
			panic(noRow{})
		}
		return x
	})
}
