package book_test

import (
	"math"
	"slices"
	"strings"
	"testing"

	"aguador/api"
	"aguador/book"
	"aguador/climb"
	"aguador/jar"
	"aguador/spring"
	"aguador/tally"
)

const (
	huge = math.MaxInt
	low  = math.MinInt
)

func span(lo, hi int) api.Span { return api.Span{Lo: lo, Hi: hi} }

func ints(l ...int) []int { return l }

func texts(l ...string) []string { return l }

// bytes are a string of some bytes.
func bytes(l ...byte) string { return string(l) }

// most are the bytes of MaxNumber, over those of the next number.
func most() string { return bytes(255, 147, 235, 220, 3) }

func over() string { return bytes(128, 148, 235, 220, 3) }

// dice is a row of numbers that looks thrown, the same in each run.
type dice struct{ state uint64 }

// upTo returns a number from lo to hi.
func (d *dice) upTo(lo, hi int) int {
	d.state = d.state*6364136223846793005 + 1442695040888963407
	return lo + int(d.state>>33)%(hi-lo+1)
}

func (d *dice) one(l []int) int { return l[d.upTo(0, len(l)-1)] }

// text is so many bytes.
func (d *dice) text(many int) string {
	var b strings.Builder
	for range many {
		b.WriteByte(byte(d.upTo(0, 255)))
	}
	return b.String()
}

// shuffled is a list in another order.
func shuffled[T any](d *dice, l []T) []T {
	l = slices.Clone(l)
	for i := range l {
		k := d.upTo(0, i)
		l[i], l[k] = l[k], l[i]
	}
	return l
}

// changed is bytes of which one is another one.
func changed(s string, at int, by byte) string { return s[:at] + bytes(s[at]^by) + s[at+1:] }

// allTexts is all strings of these bytes up to a length.
func allTexts(alphabet string, longest int) []string {
	all := texts("")
	if longest <= 0 {
		return all
	}
	for _, c := range []byte(alphabet) {
		for _, s := range allTexts(alphabet, longest-1) {
			all = append(all, bytes(c)+s)
		}
	}
	return all
}

func springs() []api.Spring {
	line := api.Line{Rain: span(0, 20), Week: 1, Gives: span(2, 100)}
	full := api.Spring{Weeks: 10, Most: 100, Fall: 100, Song: span(1, 600), Winter: span(0, 20)}
	for i := range api.MaxReadings {
		full.Readings = append(full.Readings, api.Reading{Number: 9999 - 12 + i, Week: 9 - i%10, Bucket: 40, Songs: span(i, 99)})
	}
	full.Book = slices.Repeat([]api.Line{line}, api.MaxLines)
	return []api.Spring{
		{Weeks: 2, Most: 5, Fall: 1, Song: span(60, 200), Winter: span(3, 4), Book: []api.Line{{Rain: span(0, 20), Week: 1, Gives: span(2, 3)}}, Readings: []api.Reading{{Number: 300, Bucket: 4, Songs: span(1, 9)}}},
		{Weeks: 1, Song: span(1, 1)},
		{Weeks: 5, Most: 6, Fall: 7, Song: span(8, 9), Winter: span(10, 11), Book: []api.Line{{Rain: span(12, 13), Week: 4, Gives: span(14, 15)}, {Rain: span(16, 17), Week: 3, Gives: span(18, 19)}}},
		full,
	}
}

func towns() []api.Town {
	full := api.Town{Places: ints(1, 2, 3, 4, 127, 128, 129, 255, 9999)}
	for i := range api.MaxLinks {
		full.Links = append(full.Links, api.Link{Id: 120 + i, From: full.Places[i%9], To: full.Places[(i+1)%9], Steps: 25 * i, Paces: 2000 - i})
	}
	return []api.Town{
		{Places: ints(1, 200), Links: []api.Link{{Id: 5, From: 1, To: 200, Paces: 7}}},
		{Places: ints(7)},
		{Places: ints(6, 7, 8), Links: []api.Link{{Id: 9, From: 8, To: 7, Steps: 10, Paces: 11}, {Id: 12, From: 6, To: 8, Steps: 13, Paces: 14}}},
		full,
	}
}

func jars() []api.Jar {
	full := api.Jar{Full: 20, Days: 10, Start: span(0, 20), Use: span(0, 5), Week: span(0, 35), May: 1}
	for i := range api.MaxSights {
		full.Sights = append(full.Sights, api.Sight{Id: 120 + i, Day: 9 - i%10, Pints: span(i, 20)})
		full.Brings = append(full.Brings, api.Bring{Day: i * 9 / 11, Pints: 20 - i})
	}
	return []api.Jar{
		{Full: 9, Days: 3, Start: span(1, 2), Use: span(0, 3), Week: span(0, 20), May: 1, Sights: []api.Sight{{Id: 4, Day: 2, Pints: span(0, 9)}}, Brings: []api.Bring{{Day: 1, Pints: 6}}},
		{Full: 1, Days: 1},
		{Full: 9, Days: 8, Start: span(6, 7), Use: span(4, 5), Week: span(10, 11), Sights: []api.Sight{{Id: 12, Day: 3, Pints: span(1, 2)}, {Id: 13, Pints: span(8, 9)}}, Brings: []api.Bring{{Day: 5, Pints: 14}, {Day: 5, Pints: 15}, {Day: 7, Pints: 16}}},
		full,
	}
}

func tallies() []api.Tally {
	return []api.Tally{
		{Id: 9, House: 300, Stock: ints(1, 2), Foil: ints(1)},
		{Id: 1, House: 1},
		{Id: 128, House: 127, Foil: ints(4, 3, 2)},
		{Id: 9999, House: 9999, Stock: slices.Repeat(ints(1, 2, 3, 4), 3), Foil: slices.Repeat(ints(4, 4, 1), 4)},
	}
}

// kind is one of those of records, with its functions, its layer's Check, the error of this, and some that are valid.
type kind struct {
	name  string
	write func(x any) (string, api.Errno)
	read  func(s string) (any, api.Errno)
	check func(x any) api.Errno
	bad   api.Errno
	some  []any
}

func kindOf[T any](name string, write func(T) (string, api.Errno), read func(string) (T, api.Errno), check func(T) api.Errno, bad api.Errno, some []T) kind {
	k := kind{name: name, bad: bad}
	k.write = func(x any) (string, api.Errno) { return write(x.(T)) }
	k.read = func(s string) (any, api.Errno) { return read(s) }
	k.check = func(x any) api.Errno { return check(x.(T)) }
	for _, x := range some {
		k.some = append(k.some, x)
	}
	return k
}

func kinds() []kind {
	return []kind{
		kindOf("Spring", book.Spring, book.ToSpring, spring.Check, api.ErrSpring, springs()),
		kindOf("Town", book.Town, book.ToTown, climb.Check, api.ErrTown, towns()),
		kindOf("Jar", book.Jar, book.ToJar, jar.Check, api.ErrJar, jars()),
		kindOf("Tally", book.Tally, book.ToTally, tally.Check, api.ErrTally, tallies()),
	}
}

// sheets of a file, which is not too long.
func sheets(t *testing.T, s string) []string {
	t.Helper()
	l, e := book.Sheets(s)
	if e != api.OK || len(l) != (len(s)+15)/16+1 {
		t.Fatal(len(s), len(l), e)
	}
	return l
}

// expectWhole checks the file of some sheets, also if they are told as those of two copies.
func expectWhole(t *testing.T, l []string, want string, e api.Errno) {
	t.Helper()
	if s, f := book.Whole(l); s != want || f != e {
		t.Error("Whole", l, s, f)
	}
	for _, at := range ints(0, len(l)/2, len(l)) {
		if s, f := book.Both(l[:at], l[at:]); s != want || f != e {
			t.Error("Both", at, l, s, f)
		}
	}
}

// expectLost checks which sheets are lost.
func expectLost(t *testing.T, l []string, want []int, e api.Errno) {
	t.Helper()
	if z, f := book.Lost(l); !slices.Equal(z, want) || f != e {
		t.Error("Lost", l, z, f)
	}
}
