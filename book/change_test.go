package book_test

import (
	"reflect"
	"slices"
	"strings"
	"testing"
	"unsafe"

	"aguador/api"
	"aguador/book"
)

// told is all results of a call, as texts and numbers.
type told struct {
	e api.Errno
	l []string
	n []int
}

func (a told) equal(b told) bool {
	return a.e == b.e && slices.Equal(a.l, b.l) && slices.Equal(a.n, b.n)
}

// isZero reports whether all that is told beside the error is zero.
func (a told) isZero() bool {
	isText := func(s string) bool { return s != "" }
	isNumber := func(n int) bool { return n != 0 }
	return !slices.ContainsFunc(a.l, isText) && !slices.ContainsFunc(a.n, isNumber)
}

// given is what the calls are told.
type given struct {
	n     int
	s, b  string
	l, k  []string
	patch api.Patch
}

// call is one of the functions, and its errors.
type call struct {
	name   string
	run    func(g given) told
	errors []api.Errno
}

// calls has each function of the chapter but those of records.
func calls() []call {
	several := func(l []string, e api.Errno) told { return told{e: e, l: l} }
	one := func(s string, e api.Errno) told { return told{e: e, l: texts(s)} }
	numbers := func(l []int, e api.Errno) told { return told{e: e, n: l} }
	errors := func(l ...api.Errno) []api.Errno { return l }
	return []call{
		{"Number", func(g given) told { return one(book.Number(g.n)) }, errors(api.ErrNumber)},
		{"Numbers", func(g given) told { return numbers(book.Numbers(g.s)) }, errors(api.ErrBytes)},
		{"Pack", func(g given) told { return one(book.Pack(g.l)) }, errors(api.ErrMany, api.ErrLong)},
		{"Unpack", func(g given) told { return several(book.Unpack(g.s)) }, errors(api.ErrLong, api.ErrBytes)},
		{"Sum", func(g given) told { return numbers(ints(book.Sum(g.s)), api.OK) }, nil},
		{"Sheets", func(g given) told { return several(book.Sheets(g.s)) }, errors(api.ErrLong)},
		{"Right", func(g given) told {
			if book.Right(g.s) {
				return told{n: ints(1)}
			}
			return told{}
		}, nil},
		{"Lost", func(g given) told { return numbers(book.Lost(g.l)) }, errors(api.ErrNone, api.ErrClash)},
		{"Whole", func(g given) told { return one(book.Whole(g.l)) }, errors(api.ErrNone, api.ErrClash, api.ErrLost)},
		{"Both", func(g given) told { return one(book.Both(g.l, g.k)) }, errors(api.ErrNone, api.ErrClash, api.ErrLost)},
		{"Diff", func(g given) told {
			p, e := book.Diff(g.s, g.b)
			return told{e, texts(p.Add), ints(p.At, p.Cut)}
		}, errors(api.ErrLong)},
		{"Apply", func(g given) told { return one(book.Apply(g.s, g.patch)) }, errors(api.ErrLong, api.ErrPatch)},
	}
}

// roomyTexts is a list with memory behind its end.
func roomyTexts(l ...string) []string { return append(make([]string, 0, len(l)+3), l...) }

// R3: no list is written to, nor the memory behind its end; nothing is remembered, and no result shares memory with another one.
func TestLists(t *testing.T) {
	all := sheetsOf("ABCDEFGHIJKLMNOPQ")
	fresh := func() given {
		return given{n: 300, s: bytes(2, 1, 1, 65, 66), b: bytes(2, 9, 66), l: roomyTexts(all[2], "x", all[1]), k: roomyTexts(all[0], all[1]), patch: api.Patch{At: 1, Cut: 2, Add: "AB"}}
	}
	g := fresh()
	isAsBefore := func() bool {
		return slices.Equal(g.l[:cap(g.l)], texts(all[2], "x", all[1], "", "", "")) && slices.Equal(g.k[:cap(g.k)], texts(all[0], all[1], "", "", ""))
	}
	for _, c := range calls() {
		a, b, want := c.run(g), c.run(g), c.run(fresh())
		if !a.equal(want) || !b.equal(want) || a.e != api.OK {
			t.Error(c.name, a, b, want)
		}
		if !isAsBefore() {
			t.Fatal(c.name, "writes", g)
		}
		for i := range a.l[:cap(a.l)] {
			a.l[:cap(a.l)][i] = "77"
		}
		for i := range a.n[:cap(a.n)] {
			a.n[:cap(a.n)][i] = 77
		}
		if !isAsBefore() || !b.equal(want) || !c.run(g).equal(want) {
			t.Fatal(c.name, "shares memory, or remembers", b)
		}
	}
}

// R3: no record is written by writing to what it is of, and what is read of it shares no memory with what is read again.
func TestValues(t *testing.T) {
	for _, k := range kinds() {
		for _, x := range k.some {
			y := roomy(x)
			s, _ := k.write(y)
			if !reflect.DeepEqual(whole(y), whole(roomy(x))) {
				t.Fatal(k.name, "writes", whole(y))
			}
			a, _ := k.read(s)
			b, _ := k.read(s)
			v := reflect.New(reflect.TypeOf(a)).Elem()
			v.Set(reflect.ValueOf(whole(a)))
			for i := range v.NumField() {
				for _, p := range places(v.Field(i)) {
					setTo(p, 77)
				}
			}
			c, _ := k.read(s)
			if !slices.Equal(flat(b), flat(x)) || !slices.Equal(flat(c), flat(x)) {
				t.Fatal(k.name, "shares memory", b, c)
			}
		}
	}
}

// R3: lists of one result do not share memory either.
func TestApart(t *testing.T) {
	x, _ := book.ToTally(bytes(7, 1, 1, 2, 3, 3, 2, 4, 4))
	x.Stock = append(x.Stock, 1, 1, 1, 1)
	x.Stock[0] = 2
	if !slices.Equal(x.Foil, ints(4, 4)) {
		t.Error(x)
	}
	y, _ := book.ToJar(rowOf(append(ints(api.OfJar), flat(jars()[2])...)...))
	y.Sights[0].Id, y.Brings[0].Day = 77, 78
	if y.Sights[1] != jars()[2].Sights[1] || y.Brings[1] != jars()[2].Brings[1] {
		t.Error(y)
	}
}

// overlap reports whether the memory of two texts overlaps.
func overlap(a, b string) bool {
	if a == "" || b == "" {
		return false
	}
	x, y := uintptr(unsafe.Pointer(unsafe.StringData(a))), uintptr(unsafe.Pointer(unsafe.StringData(b)))
	return x < y+uintptr(len(b)) && y < x+uintptr(len(a))
}

// R3: texts share no memory either.
func TestTextsApart(t *testing.T) {
	s := string([]byte("\x03\x05\x05\x05HELLOHELLOWORLD"))
	l, _ := book.Unpack(s)
	expectApart(t, s, l...)
	for _, p := range []api.Patch{{}, {At: len(s)}, {Cut: 3}, {At: 3, Cut: 3}} {
		z, _ := book.Apply(s, p)
		expectApart(t, s, z)
	}
	for _, a := range texts("", "\x03", "HELLO") {
		p, _ := book.Diff(a, s)
		expectApart(t, s, p.Add)
		q, _ := book.Apply("", p)
		expectApart(t, p.Add, q)
	}
	one, _ := book.Pack(texts(s))
	expectApart(t, s, one)
	all, _ := book.Sheets(s)
	expectApart(t, s, all...)
	for i := range all {
		z, _ := book.Whole(all[i:])
		for _, x := range all {
			expectApart(t, x, z)
		}
	}
}

// expectApart checks that no result overlaps with an argument, nor with another one.
func expectApart(t *testing.T, s string, l ...string) {
	t.Helper()
	for i, x := range l {
		if overlap(s, x) {
			t.Error(i, x)
		}
		for _, y := range l[:i] {
			if overlap(x, y) {
				t.Error(i, x, y)
			}
		}
	}
}

// R4: a nil list and an empty one are the same.
func TestNilAndEmpty(t *testing.T) {
	for _, c := range calls() {
		for _, k := range [][]string{nil, sheetsOf("AB")} {
			if a, b := c.run(given{k: k}), c.run(given{l: texts(), k: k}); !a.equal(b) {
				t.Error(c.name, a, b)
			}
			if a, b := c.run(given{l: k}), c.run(given{l: k, k: texts()}); !a.equal(b) {
				t.Error(c.name, a, b)
			}
		}
	}
	for _, k := range kinds() {
		for _, x := range k.some {
			nils, empty := settable(x), settable(x)
			for i := range nils.NumField() {
				if f := nils.Field(i); f.Kind() == reflect.Slice {
					f.SetZero()
					empty.Field(i).SetLen(0)
				}
			}
			a, e := k.write(nils.Interface())
			b, f := k.write(empty.Interface())
			if a != b || e != f {
				t.Error(k.name, a, b, e, f)
			}
		}
	}
}

// R2, R5, R6, R7: whatever the arguments are, each call ends, and does not panic; it tells an error of its own, and nothing beside it.
func TestAnyValue(t *testing.T) {
	d := &dice{state: 22}
	odd := ints(low, low+1, -1, 0, 1, 2, 5, 16, 17, 127, 128, 960, 961, api.MaxNumber, api.MaxNumber+1, huge-1, huge)
	text := func() string {
		switch d.upTo(0, 4) {
		case 0:
			return d.text(d.upTo(0, 2000))
		case 1:
			return packed(texts(d.text(d.upTo(0, 20)), d.text(d.upTo(0, 20))))
		case 2:
			l := sheetsOf(d.text(d.upTo(0, 40)))
			return l[d.upTo(0, len(l)-1)]
		case 3:
			k := kinds()[d.upTo(0, 3)]
			s := recordOf(firstOf(k.some[0]), k.some[d.upTo(0, 3)])
			return changed(s, d.upTo(0, len(s)-1), byte(d.upTo(0, 2)))
		}
		return d.text(d.upTo(0, 20))
	}
	list := func() (l []string) {
		if d.upTo(0, 1) == 0 {
			l = shuffled(d, sheetsOf(d.text(d.upTo(0, 40))))
		}
		for range d.upTo(0, 3) * d.upTo(0, 10) {
			l = append(l, text())
		}
		return l
	}
	answers, failures := map[string]int{}, map[string]int{}
	for range 2000 {
		g := given{n: d.one(odd), s: text(), b: text(), l: list(), k: list(), patch: api.Patch{At: d.one(odd), Cut: d.one(odd), Add: text()}}
		for _, c := range calls() {
			z := c.run(g)
			if z.e == api.OK {
				answers[c.name]++
				continue
			}
			failures[c.name]++
			if !z.isZero() || !slices.Contains(c.errors, z.e) {
				t.Fatal(c.name, g, z)
			}
		}
		for _, k := range kinds() {
			x, e := k.read(g.s)
			if e == api.OK {
				answers[k.name]++
				continue
			}
			failures[k.name]++
			expectNone(t, k, g.s, e)
			if e != api.ErrBytes && e != api.ErrRecord {
				t.Fatal(k.name, g.s, x, e)
			}
		}
	}
	for _, c := range calls() {
		if answers[c.name] < 50 || failures[c.name] < 50 && len(c.errors) > 0 {
			t.Error("too few of a kind:", c.name, answers, failures)
		}
	}
	for _, k := range kinds() {
		if answers[k.name] < 20 || failures[k.name] < 1000 {
			t.Error("too few of a kind:", k.name, answers, failures)
		}
	}
}

// R7: texts and lists however long are looked at, and each call ends.
func TestLongOnes(t *testing.T) {
	many := 1 << 20
	long := strings.Repeat("\x01", many)
	if l, e := book.Numbers(long); len(l) != many || e != api.OK {
		t.Error(len(l), e)
	}
	if l, e := book.Numbers(strings.Repeat("\x80", many)); len(l) != 0 || e != api.ErrBytes {
		t.Error(len(l), e)
	}
	for _, k := range kinds() {
		first := firstOf(k.some[0])
		for _, s := range texts(rowOf(first)+long, rowOf(first)+strings.Repeat(most(), many), rowOf(first)+strings.Repeat("\x00", many)) {
			expectNone(t, k, s, api.ErrRecord)
			expectNone(t, k, s+bytes(128), api.ErrBytes)
		}
	}
	for _, c := range calls() {
		z := c.run(given{n: huge, s: long, b: long, l: slices.Repeat(texts(long), 20), k: texts(long)})
		if (c.name == "Pack" || c.name == "Unpack" || c.name == "Sheets" || c.name == "Diff" || c.name == "Apply") && z.e != api.ErrLong || c.name == "Right" && len(z.n) > 0 || z.e != api.OK && !z.isZero() {
			t.Error(c.name, z.e)
		}
	}
	if s, e := book.Pack(slices.Repeat(texts(long), many)); s != "" || e != api.ErrMany {
		t.Error(s, e)
	}
	if s, e := book.Apply("abc", api.Patch{Add: long}); s != "" || e != api.ErrLong {
		t.Error(s, e)
	}
	l := slices.Repeat(sheetsOf("AB"), many/8)
	expectWhole(t, l, "AB", api.OK)
	expectWhole(t, append(l, sheetsOf("AC")[0]), "", api.ErrClash)
	expectLost(t, slices.Repeat(texts("x"), many), nil, api.ErrNone)
}

// R7: lists of a value however long are not valid, and written in no record.
func TestLongValues(t *testing.T) {
	many := 1 << 18
	for _, k := range kinds() {
		for _, x := range k.some {
			v := settable(x)
			for i := range v.NumField() {
				if v.Field(i).Kind() != reflect.Slice {
					continue
				}
				y := settable(x)
				y.Field(i).Set(reflect.MakeSlice(v.Field(i).Type(), many, many))
				if s, e := k.write(y.Interface()); s != "" || e != k.bad {
					t.Error(k.name, i, len(s), e)
				}
			}
		}
	}
}
