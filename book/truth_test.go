package book_test

import (
	"reflect"
	"slices"
	"strings"
	"testing"

	"aguador/api"
	"aguador/book"
)

// P11.1, P11.8: numbers of all sizes, written as varints of the library are, and read back.
func TestAllNumbers(t *testing.T) {
	try := func(n int) {
		s, e := book.Number(n)
		if s != rowOf(n) || e != api.OK {
			t.Fatal(n, []byte(s), e)
		}
		if l, f := book.Numbers(s); !slices.Equal(l, ints(n)) || f != api.OK {
			t.Fatal(n, l, f)
		}
	}
	for n := range 40000 {
		try(n)
		try(api.MaxNumber - n)
	}
	d := &dice{state: 1}
	for range 40000 {
		try(d.upTo(0, api.MaxNumber) >> d.upTo(0, 29))
	}
}

// P11.1, P11.8: all short strings of bytes at which something may change, and all of two bytes: they are a row if the library takes them for varints, and writes these so.
func TestAllRows(t *testing.T) {
	rows := 0
	try := func(s string) {
		want, is := numbersOf(s)
		e := api.OK
		if !is {
			e = api.ErrBytes
		}
		l, f := book.Numbers(s)
		if !slices.Equal(l, want) || f != e {
			t.Fatal([]byte(s), l, f)
		}
		if !is {
			return
		}
		rows++
		again := ""
		for _, n := range l {
			one, _ := book.Number(n)
			again += one
		}
		if again != s {
			t.Fatal([]byte(s), []byte(again))
		}
	}
	for _, s := range allTexts(bytes(0, 1, 3, 4, 127, 128, 255), 6) {
		try(s)
	}
	for _, s := range allTexts(most()+over(), 5) {
		try(s)
	}
	for n := range 1 << 16 {
		try(bytes(byte(n), byte(n>>8)))
	}
	if rows < 30000 {
		t.Error("too few rows:", rows)
	}
}

// more is other values of a kind: numbers of some that are valid are thrown, and lists are cut off.
func more(d *dice, k kind, many int) (l []any) {
	for len(l) < many {
		v := settable(k.some[d.upTo(0, len(k.some)-1)])
		for i := range v.NumField() {
			if f := v.Field(i); f.Kind() == reflect.Slice && d.upTo(0, 2) == 0 {
				f.SetLen(d.upTo(0, f.Len()))
			}
		}
		for range d.upTo(0, 12) {
			all := places(v)
			if len(all) == 0 {
				break
			}
			p := all[d.upTo(0, len(all)-1)]
			setTo(p, max(0, flatValue(p)[0]+d.upTo(-2, 2)))
		}
		if x := v.Interface(); k.check(x) == api.OK {
			l = append(l, x)
		}
	}
	return l
}

// P11.2, P11.8, P11.14: records of many springs, towns, jars and tallies are read as they were written, are unlike if what they are of is, and are none of another kind.
func TestManyRecords(t *testing.T) {
	d := &dice{state: 3}
	of := map[string]any{}
	twice := 0
	for _, k := range kinds() {
		for _, x := range more(d, k, 3000) {
			s, e := k.write(x)
			if s != recordOf(firstOf(x), x) || e != api.OK {
				t.Fatal(k.name, x, []byte(s), e)
			}
			if y, f := k.read(s); !slices.Equal(flat(y), flat(x)) || f != api.OK {
				t.Fatal(k.name, x, y, f)
			}
			if y, is := of[s]; is {
				twice++
				if firstOf(x) != firstOf(y) || !slices.Equal(flat(x), flat(y)) {
					t.Fatal(k.name, x, y)
				}
			}
			of[s] = x
			for _, other := range kinds() {
				if other.name != k.name {
					expectNone(t, other, s, api.ErrRecord)
				}
			}
		}
	}
	if len(of) < 5000 || twice < 100 {
		t.Error("too few of a kind:", len(of), twice)
	}
}

// P11.3, P11.8: files packed of strings that are thrown, and files of which bytes are changed: those that are unpacked are packed again.
func TestManyFiles(t *testing.T) {
	d := &dice{state: 4}
	long, good, bad := 0, 0, 0
	for range 5000 {
		var l []string
		size := d.one(ints(0, 1, 5, 45, 60, 127, 200))
		for range d.upTo(0, api.MaxRecords) {
			l = append(l, d.text(d.upTo(0, size)))
		}
		want, e := packed(l), api.OK
		if len(want) > api.MaxFile {
			long++
			want, e = "", api.ErrLong
		}
		s, f := book.Pack(l)
		if s != want || f != e {
			t.Fatal(l, []byte(s), f)
		}
		if e != api.OK {
			continue
		}
		if again, f := book.Unpack(s); !slices.Equal(again, l) || f != api.OK {
			t.Fatal(l, again, f)
		}
		s = changed(s, d.upTo(0, min(5, len(s)-1)), byte(d.upTo(1, 3)))
		l, f = book.Unpack(s)
		if f == api.ErrBytes && len(l) == 0 {
			bad++
			continue
		}
		good++
		if again, e := book.Pack(l); again != s || e != api.OK || f != api.OK {
			t.Fatal(l, []byte(s), f, []byte(again), e)
		}
	}
	if long < 200 || good < 200 || bad < 1000 {
		t.Error("too few of a kind:", long, good, bad)
	}
}

// files are some of all lengths, the shortest and the longest among them.
func files(d *dice, many int) []string {
	l := texts("", "A", d.text(15), d.text(16), d.text(17), d.text(944), d.text(945), d.text(959), d.text(960), strings.Repeat("\x00", 32))
	for range many {
		l = append(l, d.text(d.upTo(0, d.one(ints(3, 20, 40, 100, 960)))))
	}
	return l
}

// P11.9: any sheet is torn out, or false, or there twice, and the others are in any order.
func TestAnySheet(t *testing.T) {
	d := &dice{state: 6}
	for _, s := range files(d, 30) {
		l := sheets(t, s)
		expectWhole(t, l, s, api.OK)
		expectLost(t, l, nil, api.OK)
		for i := range l {
			torn := shuffled(d, slices.Delete(slices.Clone(l), i, i+1))
			some := append(slices.Clone(torn), torn[:d.upTo(0, len(torn))]...)
			e := api.OK
			if len(l) == 1 {
				e = api.ErrNone
			}
			for _, with := range [][]string{torn, some, append(slices.Clone(torn), changed(l[i], d.upTo(0, 19), byte(d.upTo(1, 255)))), append(texts(l[i][:d.upTo(0, 19)], l[i]+"x"), torn...)} {
				want, lost := s, ints(i)
				if e != api.OK {
					lost = nil
				}
				expectWhole(t, with, want, e)
				expectLost(t, with, lost, e)
			}
			expectWhole(t, append(torn, l...), s, api.OK)
			expectLost(t, append(torn, l...), nil, api.OK)
		}
	}
}

// P11.5, R1: two sheets and more are torn out.
func TestMoreSheets(t *testing.T) {
	d := &dice{state: 8}
	for _, s := range files(d, 60) {
		l := sheets(t, s)
		if len(l) < 3 {
			continue
		}
		order := make([]int, len(l))
		for i := range order {
			order[i] = i
		}
		order = shuffled(d, order)
		for _, many := range ints(2, d.upTo(2, len(l)), len(l)) {
			var left []string
			for _, i := range order[many:] {
				left = append(left, l[i])
			}
			e, f, lost := api.ErrLost, api.OK, slices.Sorted(slices.Values(order[:many]))
			if many == len(l) {
				e, f, lost = api.ErrNone, api.ErrNone, nil
			}
			expectWhole(t, left, "", e)
			expectLost(t, left, lost, f)
		}
	}
}

// P11.5, P11.6: sheets of a few short files in any mixture, some of them made for it: what is known of them is found by trying.
func TestMixtures(t *testing.T) {
	d := &dice{state: 10}
	told := map[[2]api.Errno]int{}
	for range 20000 {
		base := d.text(d.one(ints(0, 1, 2, 15, 16, 17, 31, 32, 33)))
		other := base
		if len(base) > 0 && d.upTo(0, 2) > 0 {
			other = changed(base, d.upTo(0, len(base)-1), 1)
		}
		if d.upTo(0, 9) == 0 {
			other += "x"
		}
		pool := append(sheetsOf(base), sheetsOf(other)...)
		index := d.upTo(0, dataOf(len(base)))
		pool = append(pool, sheetOf(index, len(base), strings.Repeat("\x00", d.upTo(0, 15))+bytes(byte(d.upTo(0, 2)))))
		l := shuffled(d, pool)[:d.upTo(0, d.upTo(0, len(pool)))]
		k := learned(l)
		expectWhole(t, l, k.file, k.ofFile)
		expectLost(t, l, k.lost, k.ofLost)
		if t.Failed() {
			t.Fatal(l, k)
		}
		told[[2]api.Errno{k.ofFile, k.ofLost}]++
	}
	for _, e := range [][2]api.Errno{{api.OK, api.OK}, {api.ErrNone, api.ErrNone}, {api.ErrClash, api.ErrClash}, {api.ErrClash, api.OK}, {api.ErrLost, api.OK}} {
		if told[e] < 500 {
			t.Error("too few of a kind:", e, told)
		}
	}
}

// P11.10: each byte of a sheet, changed to each other one.
func TestFalseByte(t *testing.T) {
	d := &dice{state: 12}
	for _, s := range files(d, 20) {
		l := sheets(t, s)
		for _, x := range texts(l[0], l[len(l)-1], l[len(l)/2]) {
			if !book.Right(x) {
				t.Error([]byte(x))
			}
			for at := range len(x) {
				for by := 1; by < 256; by++ {
					if book.Right(changed(x, at, byte(by))) {
						t.Error([]byte(x), at, by)
					}
				}
			}
		}
	}
}

// damaged is a copy of which a sheet is torn out, or false.
func damaged(d *dice, l []string, i int) []string {
	l = slices.Clone(l)
	if d.upTo(0, 1) == 0 {
		return slices.Delete(l, i, i+1)
	}
	l[i] = changed(l[i], d.upTo(0, 19), byte(d.upTo(1, 255)))
	return l
}

// P11.11: each sheet but one is right in one of two copies, or in both.
func TestTwoCopies(t *testing.T) {
	d := &dice{state: 14}
	for _, s := range files(d, 200) {
		l := sheets(t, s)
		if len(l) == 1 {
			continue
		}
		a, b := l, l
		gone := d.upTo(0, len(l)-1)
		for i := len(l) - 1; i >= 0; i-- {
			where := d.upTo(0, 2)
			if where == 0 || i == gone {
				a = damaged(d, a, i)
			}
			if where == 1 || i == gone {
				b = damaged(d, b, i)
			}
		}
		for _, x := range [][2][]string{{a, b}, {b, a}, {shuffled(d, a), shuffled(d, b)}} {
			if z, e := book.Both(x[0], x[1]); z != s || e != api.OK {
				t.Error(s, x, z, e)
			}
		}
		expectLost(t, slices.Concat(a, b), ints(gone), api.OK)
	}
}

// P11.12: all sheets of two unlike files, also if one byte differs.
func TestUnlikeFiles(t *testing.T) {
	d := &dice{state: 16}
	all := files(d, 40)
	for _, s := range all {
		if len(s) > 0 {
			all = append(all, s[1:], s[:len(s)-1], changed(s, d.upTo(0, len(s)-1), byte(d.upTo(1, 255))), changed(s, len(s)-1, 1))
		}
	}
	for _, a := range all {
		for _, b := range append(all[d.upTo(0, len(all)-5):][:5], a) {
			l := append(sheets(t, a), sheets(t, b)...)
			want, e := "", api.ErrClash
			if a == b {
				want, e = a, api.OK
			}
			expectWhole(t, l, want, e)
			expectLost(t, shuffled(d, l), nil, e)
		}
	}
}

// expectPatch checks the patch between two files: all patches are listed, if the files are short.
func expectPatch(t *testing.T, a, b string) {
	t.Helper()
	p, e := book.Diff(a, b)
	if s, f := book.Apply(a, p); s != b || e != api.OK || f != api.OK {
		t.Fatal(a, b, p, e, s, f)
	}
	back, e := book.Diff(b, a)
	if back != (api.Patch{At: p.At, Cut: len(p.Add), Add: a[p.At : p.At+p.Cut]}) || e != api.OK {
		t.Fatal(a, b, p, back, e)
	}
	if p.At < len(a) && p.At < len(b) && a[p.At] == b[p.At] || a[:p.At] != b[:p.At] {
		t.Fatal(a, b, p)
	}
	if max(len(a), len(b)) > 10 {
		return
	}
	found := false
	for _, x := range patchesOf(a, b) {
		if s, f := book.Apply(a, x); s != b || f != api.OK {
			t.Fatal(a, b, x, s, f)
		}
		found = found || x == p
		if x.Cut+len(x.Add) < p.Cut+len(p.Add) || x.At > p.At && x.Add == p.Add && x.Cut == p.Cut || x.At == p.At && x.Cut < p.Cut {
			t.Fatal(a, b, p, x)
		}
	}
	if !found {
		t.Fatal(a, b, p)
	}
}

// P11.7, P11.8, P11.13: all pairs of short files.
func TestAllPatches(t *testing.T) {
	for _, all := range [][]string{allTexts("ab", 6), allTexts("abc", 4)} {
		for _, a := range all {
			for _, b := range all {
				expectPatch(t, a, b)
			}
		}
	}
}

// P11.7, P11.13: files of all lengths, the one changed to the other somewhere.
func TestGreatPatches(t *testing.T) {
	d := &dice{state: 18}
	for _, a := range files(d, 300) {
		at := d.upTo(0, len(a))
		cut := d.upTo(0, min(20, len(a)-at))
		add := d.text(d.upTo(0, min(20, api.MaxFile-len(a)+cut)))
		b, e := book.Apply(a, api.Patch{At: at, Cut: cut, Add: add})
		if b != a[:at]+add+a[at+cut:] || e != api.OK {
			t.Fatal(a, at, cut, add, b, e)
		}
		expectPatch(t, a, b)
		if p, _ := book.Diff(a, b); p.Cut > cut || len(p.Add) > len(add) || p.Cut+len(p.Add) > cut+len(add) {
			t.Error(a, at, cut, add, p)
		}
	}
}

// P11.7: of a short file whatever is taken out, and put in.
func TestAllApplied(t *testing.T) {
	for _, a := range texts("", "a", "ab", "abcd") {
		for at := -2; at < 7; at++ {
			for cut := -2; cut < 7; cut++ {
				for _, add := range texts("", "x", "xyz") {
					want, e := "", api.ErrPatch
					if at >= 0 && cut >= 0 && at+cut <= len(a) {
						want, e = a[:at]+add+a[at+cut:], api.OK
					}
					if s, f := book.Apply(a, api.Patch{At: at, Cut: cut, Add: add}); s != want || f != e {
						t.Error(a, at, cut, add, s, f)
					}
				}
			}
		}
	}
}

// P11.2, P11.3, P11.9: a whole book, from what it tells to sheets of which one is torn out, and back.
func TestWholeBook(t *testing.T) {
	d := &dice{state: 20}
	for range 200 {
		var l []string
		for _, k := range kinds() {
			s, e := k.write(more(d, k, 1)[0])
			if e != api.OK {
				t.Fatal(k.name, e)
			}
			l = append(l, s)
		}
		file, e := book.Pack(l)
		if e != api.OK {
			t.Fatal(l, e)
		}
		torn := sheets(t, file)
		i := d.upTo(0, len(torn)-1)
		again, e := book.Whole(slices.Delete(torn, i, i+1))
		if again != file || e != api.OK {
			t.Fatal(i, file, again, e)
		}
		if z, e := book.Unpack(again); !slices.Equal(z, l) || e != api.OK {
			t.Fatal(z, e)
		}
	}
}
