package book_test

import (
	"slices"
	"strings"
	"testing"

	"aguador/api"
	"aguador/book"
)

// P11.1: the chapter's examples, and numbers up to the limits and beyond them.
func TestNumber(t *testing.T) {
	for i, x := range []struct {
		n    int
		want string
		e    api.Errno
	}{
		{5, bytes(5), api.OK}, {127, bytes(127), api.OK}, {128, bytes(128, 1), api.OK}, {300, bytes(172, 2), api.OK}, {0, bytes(0), api.OK}, {1, bytes(1), api.OK}, {129, bytes(129, 1), api.OK}, {255, bytes(255, 1), api.OK}, {256, bytes(128, 2), api.OK}, {128 * 127, bytes(128, 127), api.OK}, {16383, bytes(255, 127), api.OK}, {16384, bytes(128, 128, 1), api.OK}, {1<<21 - 1, bytes(255, 255, 127), api.OK}, {1 << 21, bytes(128, 128, 128, 1), api.OK}, {1<<28 - 1, bytes(255, 255, 255, 127), api.OK}, {1 << 28, bytes(128, 128, 128, 128, 1), api.OK}, {999999999, most(), api.OK},
		{1000000000, "", api.ErrNumber}, {-1, "", api.ErrNumber}, {-128, "", api.ErrNumber}, {1 << 32, "", api.ErrNumber}, {1 << 35, "", api.ErrNumber}, {huge, "", api.ErrNumber}, {low, "", api.ErrNumber},
	} {
		if s, e := book.Number(x.n); s != x.want || e != x.e {
			t.Error(i, []byte(s), e)
		}
	}
}

// P11.1: the chapter's examples, digits that are missing, 0s behind others, and numbers that are too great.
func TestNumbers(t *testing.T) {
	for i, x := range []struct {
		s    string
		want []int
		e    api.Errno
	}{
		{bytes(5, 172, 2), ints(5, 300), api.OK}, {bytes(128, 0), nil, api.ErrBytes}, {bytes(128), nil, api.ErrBytes}, {"", nil, api.OK}, {bytes(0), ints(0), api.OK}, {bytes(0, 0), ints(0, 0), api.OK}, {bytes(127, 0, 128, 1), ints(127, 0, 128), api.OK}, {most(), ints(999999999), api.OK}, {most() + most() + bytes(0), ints(999999999, 999999999, 0), api.OK}, {bytes(255, 255, 255, 127), ints(1<<28 - 1), api.OK}, {bytes(128, 128, 128, 128, 1), ints(1 << 28), api.OK}, {bytes(128, 128, 128, 128, 3), ints(3 << 28), api.OK},
		{over(), nil, api.ErrBytes}, {bytes(128, 128, 128, 128, 4), nil, api.ErrBytes}, {bytes(255, 255, 255, 255, 127), nil, api.ErrBytes}, {bytes(128, 128, 128, 128, 128, 1), nil, api.ErrBytes}, {strings.Repeat(bytes(255), 9) + bytes(1), nil, api.ErrBytes}, {strings.Repeat(bytes(128), 9) + bytes(2), nil, api.ErrBytes}, {strings.Repeat(bytes(128), 64) + bytes(1), nil, api.ErrBytes}, {bytes(128, 128, 0), nil, api.ErrBytes}, {bytes(128, 128, 128, 128, 0), nil, api.ErrBytes}, {bytes(129, 0), nil, api.ErrBytes}, {bytes(255), nil, api.ErrBytes}, {bytes(1, 2, 128), nil, api.ErrBytes}, {bytes(128, 0, 1), nil, api.ErrBytes}, {bytes(128, 128), nil, api.ErrBytes}, {bytes(1) + over() + bytes(1), nil, api.ErrBytes},
	} {
		if l, e := book.Numbers(x.s); !slices.Equal(l, x.want) || e != x.e {
			t.Error(i, l, e)
		}
	}
}

// P11.2: records byte by byte, the chapter's example among them.
func TestRecords(t *testing.T) {
	for i, x := range []struct {
		x    any
		want string
	}{
		{springs()[0], bytes(1, 2, 5, 1, 60, 200, 1, 3, 4, 1, 0, 20, 1, 2, 3, 1, 172, 2, 0, 4, 1, 9)}, {springs()[1], bytes(1, 1, 0, 0, 1, 1, 0, 0, 0, 0)}, {springs()[2], bytes(1, 5, 6, 7, 8, 9, 10, 11, 2, 12, 13, 4, 14, 15, 16, 17, 3, 18, 19, 0)},
		{towns()[0], bytes(3, 2, 1, 200, 1, 1, 5, 1, 200, 1, 0, 7)}, {towns()[1], bytes(3, 1, 7, 0)}, {towns()[2], bytes(3, 3, 6, 7, 8, 2, 9, 8, 7, 10, 11, 12, 6, 8, 13, 14)},
		{jars()[0], bytes(5, 9, 3, 1, 2, 0, 3, 0, 20, 1, 1, 4, 2, 0, 9, 1, 1, 6)}, {jars()[1], bytes(5, 1, 1, 0, 0, 0, 0, 0, 0, 0, 0, 0)}, {jars()[2], bytes(5, 9, 8, 6, 7, 4, 5, 10, 11, 0, 2, 12, 3, 1, 2, 13, 0, 8, 9, 3, 5, 14, 5, 15, 7, 16)},
		{tallies()[0], bytes(7, 9, 172, 2, 2, 1, 2, 1, 1)}, {tallies()[1], bytes(7, 1, 1, 0, 0)}, {tallies()[2], bytes(7, 128, 1, 127, 0, 3, 4, 3, 2)}, {tallies()[3], bytes(7, 143, 78, 143, 78, 12, 1, 2, 3, 4, 1, 2, 3, 4, 1, 2, 3, 4, 12, 4, 4, 1, 4, 4, 1, 4, 4, 1, 4, 4, 1)},
	} {
		for _, k := range kinds() {
			if firstOf(x.x) == firstOf(k.some[0]) {
				expectRecord(t, k, i, x.x, x.want)
			}
		}
	}
}

// expectRecord checks that a record is written of one thing, and read back as it.
func expectRecord(t *testing.T, k kind, i int, x any, want string) {
	t.Helper()
	if s, e := k.write(x); s != want || e != api.OK {
		t.Error(k.name, i, []byte(s), e)
	}
	if y, e := k.read(want); !slices.Equal(flat(y), flat(x)) || e != api.OK {
		t.Error(k.name, i, y, e)
	}
}

// expectNone checks that bytes are no record of a kind.
func expectNone(t *testing.T, k kind, s string, e api.Errno) {
	t.Helper()
	zero := func(n int) bool { return n != 0 }
	if x, f := k.read(s); f != e || slices.ContainsFunc(flat(x), zero) {
		t.Error(k.name, []byte(s), x, f)
	}
}

// P11.2: of what is not valid there is no record: numbers at each place are tried, also those that are told by more bytes, or by none.
func TestNotValid(t *testing.T) {
	good, bad := 0, 0
	for _, k := range kinds() {
		for i, x := range k.some {
			for at := range places(settable(x)) {
				for _, n := range ints(0, 1, 2, 4, 5, 7, 21, 101, 127, 128, 255, 256, 257, 601, 9999, 10000, 999999999, 1000000000, 1<<32+1, huge, -1, low) {
					y := settable(x)
					setTo(places(y)[at], n)
					if k.check(y.Interface()) == api.OK {
						good++
						expectRecord(t, k, i, y.Interface(), recordOf(firstOf(x), y.Interface()))
						continue
					}
					bad++
					if s, e := k.write(y.Interface()); s != "" || e != k.bad {
						t.Error(k.name, i, y, []byte(s), e)
					}
					if l := flat(y.Interface()); slices.Min(l) >= 0 && slices.Max(l) <= api.MaxNumber {
						expectNone(t, k, recordOf(firstOf(x), y.Interface()), api.ErrRecord)
					}
				}
			}
		}
	}
	if good < 1000 || bad < 4000 {
		t.Error("too few of a kind:", good, bad)
	}
}

// P11.2: each number of a record, and how many of them there are, is changed: it is a record if it is one of something that is valid.
func TestNearRecords(t *testing.T) {
	good, bad := 0, 0
	try := func(k kind, l []int) {
		s := rowOf(l...)
		x, e := k.read(s)
		if e == api.OK {
			good++
			if again, f := k.write(x); again != s || f != api.OK || k.check(x) != api.OK || recordOf(firstOf(x), x) != s {
				t.Error(k.name, l, x, again, f)
			}
			return
		}
		bad++
		expectNone(t, k, s, api.ErrRecord)
	}
	for _, k := range kinds() {
		for _, x := range k.some {
			l, _ := numbersOf(recordOf(firstOf(x), x))
			for at := range len(l) {
				try(k, slices.Delete(slices.Clone(l), at, at+1))
				for _, n := range ints(0, 1, 2, 3, 5, 7, 12, 255, 256, 257, 999999999) {
					y := slices.Clone(l)
					y[at] = n
					try(k, y)
					try(k, slices.Insert(slices.Clone(l), at, n))
				}
			}
			for n := range 10 {
				try(k, append(slices.Clone(l), n))
			}
		}
	}
	if good < 700 || bad < 5000 {
		t.Error("too few of a kind:", good, bad)
	}
}

// P11.2, R1: bytes that are no row of numbers, also where numbers are missing, or the kind is another one.
func TestNoRecords(t *testing.T) {
	for _, k := range kinds() {
		expectNone(t, k, "", api.ErrRecord)
		for n := range 10 {
			expectNone(t, k, bytes(byte(n)), api.ErrRecord)
			expectNone(t, k, bytes(byte(n), 128), api.ErrBytes)
			expectNone(t, k, bytes(byte(n), 128, 0), api.ErrBytes)
		}
		for _, x := range k.some {
			s := recordOf(firstOf(x), x)
			for _, end := range texts(bytes(128, 0), over(), bytes(0, 255, 0)) {
				expectNone(t, k, s+end, api.ErrBytes)
				expectNone(t, k, end+s, api.ErrBytes)
			}
			expectNone(t, k, s+bytes(128), api.ErrBytes)
			for n := range len(s) {
				e := api.ErrRecord
				if n > 0 && s[n-1] >= 128 {
					e = api.ErrBytes
				}
				expectNone(t, k, s[:n], e)
			}
			for of := range 300 {
				if of != firstOf(x) {
					expectNone(t, k, recordOf(of, x), api.ErrRecord)
				}
			}
		}
	}
}

// P11.3: the chapter's example, and files as long as they can be, and longer.
func TestPack(t *testing.T) {
	long := strings.Repeat("x", 957)
	for i, x := range []struct {
		l    []string
		want string
		e    api.Errno
	}{
		{texts("AB", "", "C"), bytes(3, 2, 0, 1, 65, 66, 67), api.OK}, {nil, bytes(0), api.OK}, {texts(), bytes(0), api.OK}, {texts(""), bytes(1, 0), api.OK}, {texts("", ""), bytes(2, 0, 0), api.OK}, {texts(bytes(255, 0, 128)), bytes(1, 3, 255, 0, 128), api.OK}, {texts("b", "a", "a"), bytes(3, 1, 1, 1) + "baa", api.OK}, {texts(strings.Repeat("y", 128)), bytes(1, 128, 1) + strings.Repeat("y", 128), api.OK}, {texts(long), bytes(1, 189, 7) + long, api.OK}, {texts("", long[:956]), bytes(2, 0, 188, 7) + long[:956], api.OK}, {make([]string, 20), bytes(20) + string(make([]byte, 20)), api.OK}, {slices.Repeat(texts(long[:46]), 20), bytes(20) + strings.Repeat(bytes(46), 20) + strings.Repeat("x", 920), api.OK}, {append(slices.Repeat(texts(long[:47]), 19), long[:46]), bytes(20) + strings.Repeat(bytes(47), 19) + bytes(46) + strings.Repeat("x", 939), api.OK},
		{texts(long + "x"), "", api.ErrLong}, {texts("x", long), "", api.ErrLong}, {texts("", long), "", api.ErrLong}, {texts(long, ""), "", api.ErrLong}, {slices.Repeat(texts(long[:47]), 20), "", api.ErrLong}, {slices.Repeat(texts(long), 20), "", api.ErrLong}, {make([]string, 21), "", api.ErrMany}, {slices.Repeat(texts(long), 21), "", api.ErrMany},
	} {
		s, e := book.Pack(x.l)
		if s != x.want || e != x.e {
			t.Error(i, len(s), []byte(s), e)
		}
		if e != api.OK {
			continue
		}
		if l, f := book.Unpack(s); !slices.Equal(l, x.l) || f != api.OK {
			t.Error(i, l, f)
		}
	}
}

// P11.3: files that nothing is packed in.
func TestUnpack(t *testing.T) {
	long := strings.Repeat("x", 957)
	for i, x := range []struct {
		s string
		e api.Errno
	}{
		{"", api.ErrBytes}, {bytes(1), api.ErrBytes}, {bytes(2, 1), api.ErrBytes}, {bytes(0, 0), api.ErrBytes}, {bytes(0) + "A", api.ErrBytes}, {bytes(1, 2) + "A", api.ErrBytes}, {bytes(1, 1) + "AB", api.ErrBytes}, {bytes(1, 0) + "A", api.ErrBytes}, {bytes(2, 1, 1) + "A", api.ErrBytes}, {bytes(128, 0), api.ErrBytes}, {bytes(128), api.ErrBytes}, {bytes(1, 128, 0), api.ErrBytes}, {bytes(129, 0, 1) + "A", api.ErrBytes}, {bytes(1, 129, 0) + "A", api.ErrBytes}, {bytes(1) + most(), api.ErrBytes}, {bytes(2) + most() + most(), api.ErrBytes}, {most(), api.ErrBytes}, {over(), api.ErrBytes}, {bytes(21) + string(make([]byte, 21)), api.ErrBytes}, {bytes(1, 190, 7) + long, api.ErrBytes},
		{bytes(1, 190, 7) + long + "x", api.ErrLong}, {strings.Repeat(bytes(128), 961), api.ErrLong},
	} {
		if l, e := book.Unpack(x.s); len(l) != 0 || e != x.e {
			t.Error(i, l, e)
		}
	}
}

// P11.3: each short string of a few bytes is unpacked if some strings are packed in it: lists of all strings are packed for this.
func TestUnpackAll(t *testing.T) {
	alphabet, longest := bytes(0, 1, 2, 3, 4, 128), 6
	files := map[string][]string{}
	var pack func(l []string)
	pack = func(l []string) {
		s := packed(l)
		if len(s) > longest {
			return
		}
		files[s] = l
		for _, x := range allTexts(alphabet, longest-len(s)-1) {
			pack(append(slices.Clone(l), x))
		}
	}
	pack(nil)
	found := 0
	for _, s := range allTexts(alphabet, longest) {
		want, is := files[s]
		e := api.ErrBytes
		if is {
			found++
			e = api.OK
		}
		if l, f := book.Unpack(s); !slices.Equal(l, want) || f != e {
			t.Error([]byte(s), l, f)
		}
	}
	if found < 2000 {
		t.Error("too few files:", found)
	}
}

// P11.4: the chapter's examples, and a bit at each place.
func TestSum(t *testing.T) {
	for i, x := range []struct {
		s    string
		want int
	}{
		{bytes(1, 2, 3), 3}, {bytes(128, 0), 1}, {"", 0}, {bytes(0), 0}, {bytes(255), 255}, {bytes(255, 0), 255}, {bytes(255, 255), 0}, {bytes(64, 0), 128}, {bytes(192, 0), 129}, {bytes(127, 0), 254}, {bytes(1, 0, 0, 0, 0, 0, 0, 0, 0), 1}, {bytes(1, 0, 0, 0, 0, 0, 0, 0), 128},
	} {
		if n := book.Sum(x.s); n != x.want {
			t.Error(i, n)
		}
	}
	d := &dice{state: 5}
	for range 2000 {
		s := d.text(d.upTo(0, 40))
		if n := book.Sum(s); n != sumOf(s) || n < 0 || n > 255 {
			t.Error([]byte(s), n)
		}
	}
}

// P11.4: the chapter's examples, and files of all lengths.
func TestSheets(t *testing.T) {
	zero := string(make([]byte, 14))
	for i, x := range []struct {
		s    string
		want []string
	}{
		{"AB", texts(bytes(0, 2, 0, 65, 66)+zero+bytes(52), bytes(1, 2, 0, 65, 66)+zero+bytes(48))}, {"", texts(string(make([]byte, 20)))}, {bytes(0), texts(bytes(0, 1, 0, 0, 0)+zero+bytes(2), bytes(1, 1, 0, 0, 0)+zero+bytes(6))},
	} {
		if l, e := book.Sheets(x.s); !slices.Equal(l, x.want) || e != api.OK {
			t.Error(i, l, e)
		}
	}
	d := &dice{state: 7}
	for n := range 1000 {
		s := d.text(n)
		want, e := sheetsOf(s), api.OK
		if n > 960 {
			want, e = nil, api.ErrLong
		}
		l, f := book.Sheets(s)
		if !slices.Equal(l, want) || f != e {
			t.Error(n, l, f)
		}
	}
}

// P11.4: sheets with the right sum, of all indices and lengths, with another byte somewhere.
func TestRight(t *testing.T) {
	d := &dice{state: 9}
	right := 0
	for index := range 256 {
		for length := range 1030 {
			text := make([]byte, 16)
			text[d.upTo(0, 15)] = byte(d.upTo(0, 1) * d.upTo(0, 255))
			s := sheetOf(index, length, string(text))
			if is := book.Right(s); is != isRight(s) {
				t.Error([]byte(s), is)
			}
			if isRight(s) {
				right++
			}
		}
	}
	for _, length := range ints(1<<10, 1<<12-1, 1<<15, 1<<16-1) {
		for index := range 256 {
			if book.Right(sheetOf(index, length, "")) {
				t.Error(index, length)
			}
		}
	}
	if right < 25000 {
		t.Error("too few are right:", right)
	}
}

// P11.4: bytes behind the file's end, of files of all lengths, on the last data sheet, the one before it, and the spare one.
func TestRightAtTheEnd(t *testing.T) {
	for length := range 961 {
		data := dataOf(length)
		for index := max(0, data-2); index <= data; index++ {
			for at := range 16 {
				text := make([]byte, 16)
				text[at] = 1
				want := index == data || 16*index+at < length
				if is := book.Right(sheetOf(index, length, string(text))); is != want {
					t.Error(length, index, at, is)
				}
			}
		}
		if book.Right(sheetOf(data+1, length, "")) || !book.Right(sheetOf(0, length, "")) {
			t.Error(length)
		}
	}
}

// P11.4: a sheet that is right has 20 bytes.
func TestRightLength(t *testing.T) {
	s := sheetsOf("AB")[0]
	for n := range len(s) {
		if book.Right(s[:n]) || n > 0 && book.Right(s[n:]) || book.Right(s+s[:n]+"x") || book.Right(summed(s[:n])) != (n == 19) {
			t.Error(n)
		}
	}
	if !book.Right(s) || !book.Right(string(make([]byte, 20))) || book.Right(string(make([]byte, 19))) || book.Right(string(make([]byte, 21))) || book.Right(strings.Repeat(s, 2)) {
		t.Error("20 bytes")
	}
}

// P11.5, P11.6: the chapter's examples, and all errors in their order.
func TestWhole(t *testing.T) {
	ab, ac, none := sheetsOf("AB"), sheetsOf("AC"), sheetsOf("")
	two, like := sheetsOf("ABCDEFGHIJKLMNOPQ"), sheetsOf("ABCDEfGHIJKLMNOPQ")
	odd := sheetOf(0, 0, "x")             // the spare one of nothing
	past := sheetOf(1, 2, "ABC")          // a spare one that would need a byte behind the end
	wide := sheetOf(2, 17, "ABCDEFGHIJK") // one that needs one if the sheet 0 is that of ABCDEFGHIJKLMNOP
	made := bytes('A'^'Q') + "BCDEFGHIJK" + bytes(0, 0, 0, 0, 0) + "Q"
	for _, x := range []struct {
		l    []string
		want string
		lost []int
		e, f api.Errno
	}{
		{ab[1:], "AB", ints(0), api.OK, api.OK}, {ab, "AB", nil, api.OK, api.OK}, {ab[:1], "AB", ints(1), api.OK, api.OK}, {texts(ab[1], ab[0], ab[1], ab[0]), "AB", nil, api.OK, api.OK}, {texts("", ab[0][:19], ab[1], "x"), "AB", ints(0), api.OK, api.OK}, {none, "", nil, api.OK, api.OK}, {append(texts(none[0], none[0]), changed(ab[0], 3, 1)), "", nil, api.OK, api.OK},
		{two, "ABCDEFGHIJKLMNOPQ", nil, api.OK, api.OK}, {two[1:], "ABCDEFGHIJKLMNOPQ", ints(0), api.OK, api.OK}, {texts(two[2], two[0]), "ABCDEFGHIJKLMNOPQ", ints(1), api.OK, api.OK}, {two[:2], "ABCDEFGHIJKLMNOPQ", ints(2), api.OK, api.OK}, {texts(like[0], two[1]), "ABCDEfGHIJKLMNOPQ", ints(2), api.OK, api.OK}, {texts(two[1], like[2]), "ABCDEfGHIJKLMNOPQ", ints(0), api.OK, api.OK},
		{nil, "", nil, api.ErrNone, api.ErrNone}, {texts(), "", nil, api.ErrNone, api.ErrNone}, {texts("x", ab[0][1:], changed(ab[0], 19, 1), ab[0]+ab[1]), "", nil, api.ErrNone, api.ErrNone},
		{two[:1], "", ints(1, 2), api.ErrLost, api.OK}, {two[1:2], "", ints(0, 2), api.ErrLost, api.OK}, {two[2:], "", ints(0, 1), api.ErrLost, api.OK}, {texts(wide), "", ints(0, 1), api.ErrLost, api.OK},
		{append(slices.Clone(ab), ac...), "", nil, api.ErrClash, api.ErrClash}, {texts(ab[0], ac[0]), "", nil, api.ErrClash, api.ErrClash}, {texts(ab[0], two[1]), "", nil, api.ErrClash, api.ErrClash}, {texts(two[1], ab[0]), "", nil, api.ErrClash, api.ErrClash}, {texts(two[1], two[2], like[2]), "", nil, api.ErrClash, api.ErrClash}, {texts(none[0], odd), "", nil, api.ErrClash, api.ErrClash}, {texts(ab[0], ab[1], none[0]), "", nil, api.ErrClash, api.ErrClash},
		{texts(ab[0], ac[1]), "", nil, api.ErrClash, api.OK}, {texts(two[0], two[1], like[2]), "", nil, api.ErrClash, api.OK}, {texts(odd), "", nil, api.ErrClash, api.OK}, {texts(two[0], like[2]), "", ints(1), api.ErrClash, api.OK}, {texts(past), "", ints(0), api.ErrClash, api.OK}, {texts(past, ab[0]), "", nil, api.ErrClash, api.OK}, {texts(wide, two[0]), "", ints(1), api.ErrClash, api.OK}, {texts(wide, two[1]), made, ints(0), api.OK, api.OK},
	} {
		expectWhole(t, x.l, x.want, x.e)
		expectLost(t, x.l, x.lost, x.f)
	}
}

// P11.7: the chapter's examples, and files that are too long.
func TestDiff(t *testing.T) {
	long := strings.Repeat("x", 960)
	for i, x := range []struct {
		a, b string
		want api.Patch
		e    api.Errno
	}{
		{bytes(1, 2, 3, 4), bytes(1, 9, 4), api.Patch{At: 1, Cut: 2, Add: bytes(9)}, api.OK}, {bytes(1, 1), bytes(1, 1, 1), api.Patch{At: 2, Add: bytes(1)}, api.OK}, {"", "", api.Patch{}, api.OK}, {"abc", "abc", api.Patch{At: 3}, api.OK}, {"", "abc", api.Patch{Add: "abc"}, api.OK}, {"abc", "", api.Patch{Cut: 3}, api.OK}, {"abc", "xbc", api.Patch{Cut: 1, Add: "x"}, api.OK}, {"abc", "abx", api.Patch{At: 2, Cut: 1, Add: "x"}, api.OK}, {"aaa", "aa", api.Patch{At: 2, Cut: 1}, api.OK}, {"abab", "ab", api.Patch{At: 2, Cut: 2}, api.OK}, {"ab", "abab", api.Patch{At: 2, Add: "ab"}, api.OK}, {"abcab", "ab", api.Patch{At: 2, Cut: 3}, api.OK}, {"cab", "ab", api.Patch{Cut: 1}, api.OK}, {"abxcd", "abycd", api.Patch{At: 2, Cut: 1, Add: "y"}, api.OK}, {"abcd", "dcba", api.Patch{Cut: 4, Add: "dcba"}, api.OK}, {long, long[1:], api.Patch{At: 959, Cut: 1}, api.OK}, {long, long, api.Patch{At: 960}, api.OK}, {long, strings.Repeat("y", 960), api.Patch{Cut: 960, Add: strings.Repeat("y", 960)}, api.OK},
		{long + "x", "", api.Patch{}, api.ErrLong}, {"", long + "x", api.Patch{}, api.ErrLong}, {long + "x", long + "x", api.Patch{}, api.ErrLong}, {long + "x", long, api.Patch{}, api.ErrLong}, {long, long + "x", api.Patch{}, api.ErrLong},
	} {
		if p, e := book.Diff(x.a, x.b); p != x.want || e != x.e {
			t.Error(i, p, e)
		}
	}
}

// P11.7: patches of all kinds, and the errors in their order.
func TestApply(t *testing.T) {
	long := strings.Repeat("x", 960)
	bad := api.ErrPatch
	for i, x := range []struct {
		a    string
		p    api.Patch
		want string
		e    api.Errno
	}{
		{"abc", api.Patch{At: 1, Cut: 1, Add: "xyz"}, "axyzc", api.OK}, {"abc", api.Patch{}, "abc", api.OK}, {"abc", api.Patch{At: 3, Add: "d"}, "abcd", api.OK}, {"abc", api.Patch{Add: "d"}, "dabc", api.OK}, {"abc", api.Patch{Cut: 3}, "", api.OK}, {"abc", api.Patch{At: 2, Cut: 1}, "ab", api.OK}, {"", api.Patch{}, "", api.OK}, {"", api.Patch{Add: "abc"}, "abc", api.OK}, {long, api.Patch{Cut: 1, Add: "y"}, "y" + long[1:], api.OK}, {long, api.Patch{At: 960}, long, api.OK}, {long, api.Patch{Cut: 960, Add: long}, long, api.OK}, {long[1:], api.Patch{At: 959, Add: "y"}, long[1:] + "y", api.OK},
		{"abc", api.Patch{At: 4}, "", bad}, {"abc", api.Patch{At: -1}, "", bad}, {"abc", api.Patch{At: -1, Cut: 1}, "", bad}, {"abc", api.Patch{Cut: 4}, "", bad}, {"abc", api.Patch{At: 1, Cut: 3}, "", bad}, {"abc", api.Patch{At: 3, Cut: 1}, "", bad}, {"abc", api.Patch{Cut: -1}, "", bad}, {"abc", api.Patch{At: 4, Cut: -1}, "", bad}, {"", api.Patch{At: 1}, "", bad}, {"", api.Patch{Cut: 1}, "", bad}, {"abc", api.Patch{At: huge}, "", bad}, {"abc", api.Patch{At: low}, "", bad}, {"abc", api.Patch{Cut: huge}, "", bad}, {"abc", api.Patch{Cut: low}, "", bad}, {"abc", api.Patch{At: 1, Cut: huge}, "", bad}, {"abc", api.Patch{At: huge, Cut: huge}, "", bad}, {"abc", api.Patch{At: huge, Cut: low}, "", bad}, {"abc", api.Patch{At: low, Cut: huge}, "", bad}, {"abc", api.Patch{At: low, Cut: low}, "", bad}, {"abc", api.Patch{At: 4, Add: long}, "", bad}, {"abc", api.Patch{Cut: -1, Add: long + "x"}, "", bad},
		{long, api.Patch{Add: "y"}, "", api.ErrLong}, {long, api.Patch{Cut: 1, Add: "yy"}, "", api.ErrLong}, {"", api.Patch{Add: long + "x"}, "", api.ErrLong}, {"abc", api.Patch{Cut: 2, Add: long}, "", api.ErrLong}, {long + "x", api.Patch{}, "", api.ErrLong}, {long + "x", api.Patch{Cut: 961}, "", api.ErrLong}, {long + "x", api.Patch{At: -1}, "", api.ErrLong},
	} {
		if s, e := book.Apply(x.a, x.p); s != x.want || e != x.e {
			t.Error(i, s, e)
		}
	}
}
