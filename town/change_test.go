package town_test

import (
	"slices"
	"testing"

	"aguador/api"
	"aguador/jar"
	"aguador/town"
)

// P9.8, P9.16: each jar counts once, also if two are alike; what is least is no more than the Lo.
func TestCount(t *testing.T) {
	// On any of two days the house wants 2 or 3, because it wants 5 at most in the week.
	bound := wanting(2, 5)
	bound.Week = span(0, 5)
	// It has left, or not.
	may := wanting(3, 4)
	may.May = api.KnownOpen
	// Two pints were taken on day 0 at least, of three that are wanted in the week.
	seen := wanting(0, 5)
	seen.Start, seen.Week, seen.Sights = span(9, 9), span(0, 3), []api.Sight{{Id: 1, Day: 0, Pints: span(0, 7)}}
	for i, x := range []struct {
		jars  []api.Jar
		day   int
		need  api.Span
		least int // of a street whose Least was 5
	}{
		{nil, 0, span(0, 0), 0}, {jars(), low, span(0, 0), 0}, {nil, huge, span(0, 0), 0}, {jars(wanting(0, 0)), 0, span(0, 0), 0}, {jars(wanting(2, 3)), 0, span(2, 3), 2}, {jars(wanting(4, 5)), 1, span(4, 5), 4}, {jars(wanting(2, 3), wanting(3, 3)), 1, span(5, 6), 5}, {jars(wanting(2, 3), wanting(2, 3), wanting(2, 3)), 0, span(6, 9), 5}, {jars(wanting(0, 5), wanting(1, 1)), 0, span(1, 6), 1}, {slices.Repeat(jars(wanting(5, 5)), 8), 1, span(40, 40), 5}, {slices.Repeat(jars(wanting(0, 5)), 8), 1, span(0, 40), 0},
		{jars(bound), 0, span(2, 3), 2}, {jars(bound, bound), 1, span(4, 6), 4}, {jars(may), 1, span(0, 4), 0}, {jars(may, wanting(3, 3)), 0, span(3, 7), 3}, {jars(seen), 0, span(2, 3), 2}, {jars(seen), 1, span(0, 1), 0}, {jars(seen, bound, may), 1, span(2, 8), 2},
	} {
		for at, id := range ints(1, 2, 3) {
			for _, s := range []api.Supply{chapter(), dry()} {
				want := copied(s)
				want.Streets[at].Need = x.need
				want.Streets[at].Least = min(want.Streets[at].Least, x.need.Lo)
				if at == 1 && want.Streets[at].Least != x.least {
					t.Error("not as said", i, want.Streets[at])
				}
				y, e := town.Count(s, id, x.jars, x.day)
				expectSupply(t, i, y, want, e, api.OK)
				if town.Check(y) != api.OK {
					t.Error(i, y)
				}
			}
		}
	}
}

// P9.8, R1: too many jars, then the first jar that has an error.
func TestCountErrors(t *testing.T) {
	good, odd, bad := wanting(1, 1), api.Jar{}, wanting(3, 3)
	bad.Week = span(0, 2)
	long := wanting(1, 1)
	long.Days = 3
	for i, x := range []struct {
		jars []api.Jar
		day  int
		e    api.Errno
	}{
		{slices.Repeat(jars(good), 8), 0, api.OK}, {slices.Repeat(jars(good), 9), 0, api.ErrArg}, {slices.Repeat(jars(odd), 9), 0, api.ErrArg}, {slices.Repeat(jars(good), 1<<16), -1, api.ErrArg}, {slices.Repeat(jars(odd), 8), 0, api.ErrJar}, {jars(good), 2, api.ErrDay}, {jars(good), -1, api.ErrDay}, {jars(good), huge, api.ErrDay}, {jars(good), low, api.ErrDay}, {jars(bad), 0, api.ErrBad}, {jars(bad), 2, api.ErrDay}, {jars(odd), 2, api.ErrJar},
		{jars(good, good, bad), 1, api.ErrBad}, {jars(good, odd, bad), 1, api.ErrJar}, {jars(good, bad, odd), 1, api.ErrBad}, {jars(good, bad, odd), 2, api.ErrDay}, {jars(long, good), 2, api.ErrDay}, {jars(long, bad), 2, api.ErrDay}, {jars(long, odd), 2, api.ErrJar}, {jars(long, long), 2, api.OK},
	} {
		for _, s := range []api.Supply{chapter(), dry()} {
			expect(t, s, given{street: 2, jars: x.jars, day: x.day}, x.e, "Count")
			expect(t, s, given{street: 4, jars: x.jars, day: x.day}, api.ErrStreet, "Count")
		}
		if t.Failed() {
			t.Fatal(i)
		}
	}
}

// P9.16: whatever the jars are, the street needs what they want together.
func TestCountOfAnyJars(t *testing.T) {
	r := &dice{state: 21}
	counted := 0
	for range 1000 {
		var l []api.Jar
		for range r.upTo(0, 4) {
			j := wanting(r.upTo(0, 2), r.upTo(2, 5))
			j.Days, j.May = r.upTo(1, 3), uint8(r.upTo(0, 1))
			j.Week.Hi = r.upTo(6, 12)
			l = append(l, j)
		}
		day := r.upTo(0, 1)
		s := supply(stills(5), street(1, 9, 9, r.upTo(0, 9), 1), street(2, 4, 9, 3, 1))
		want := copied(s)
		want.Streets[0].Need = span(0, 0)
		first := api.OK
		for _, j := range l {
			x, e := jar.Wants(j, day)
			if e != api.OK {
				first = e
				break
			}
			want.Streets[0].Need.Lo += x.Lo
			want.Streets[0].Need.Hi += x.Hi
		}
		want.Streets[0].Least = min(s.Streets[0].Least, want.Streets[0].Need.Lo)
		y, e := town.Count(s, 1, l, day)
		expectSupply(t, l, y, want, e, first)
		if first == api.OK {
			counted++
		}
	}
	if counted < 500 {
		t.Error("too few of a kind:", counted)
	}
}

// ofIds is a supply with streets of these Ids, each of which needs something else.
func ofIds(l ...int) api.Supply {
	s := supply(stills(9, 8, 7))
	for i, id := range l {
		s.Streets = append(s.Streets, street(id, i, 2*i, i/2, ints(1, 2, 3)[i%3:]...))
	}
	return s
}

// P9.8: a street is put in its place.
func TestPut(t *testing.T) {
	for i, x := range []struct {
		before []int
		id     int
		at     int
		e      api.Errno
	}{
		{nil, 1, 0, api.OK}, {nil, 9999, 0, api.OK}, {ints(2, 4, 6), 1, 0, api.OK}, {ints(2, 4, 6), 3, 1, api.OK}, {ints(2, 4, 6), 5, 2, api.OK}, {ints(2, 4, 6), 7, 3, api.OK}, {ints(2, 4, 6), 9999, 3, api.OK}, {ints(1, 2, 3, 4), 5, 4, api.OK}, {ints(2, 3, 4, 5), 1, 0, api.OK},
		{ints(2, 4, 6), 2, 0, api.ErrStreet}, {ints(2, 4, 6), 4, 0, api.ErrStreet}, {ints(2, 4, 6), 6, 0, api.ErrStreet}, {nil, 0, 0, api.ErrStreet}, {nil, -1, 0, api.ErrStreet}, {nil, 10000, 0, api.ErrStreet}, {nil, huge, 0, api.ErrStreet}, {nil, low, 0, api.ErrStreet}, {ints(2, 4, 6), 0, 0, api.ErrStreet}, {ints(2, 4, 6), low, 0, api.ErrStreet}, {ints(2, 4, 6), 10000, 0, api.ErrStreet}, {ints(2, 4, 6), huge, 0, api.ErrStreet},
		{ints(1, 2, 3, 4, 5), 6, 0, api.ErrFull}, {ints(2, 3, 4, 5, 6), 1, 0, api.ErrFull}, {ints(2, 3, 4, 5, 6), 2, 0, api.ErrFull}, {ints(2, 3, 4, 5, 6), 0, 0, api.ErrFull},
	} {
		s := ofIds(x.before...)
		want := ofIds(x.before...)
		y := street(x.id, 50, 100, 49, 1, 3)
		want.Streets = slices.Insert(want.Streets, x.at, y)
		z, e := town.Put(s, y)
		expectSupply(t, i, z, want, e, x.e)
	}
	for i, x := range badStreets() {
		for _, s := range []api.Supply{chapter(), dry()} {
			z, e := town.Put(s, x)
			expectSupply(t, i, z, s, e, api.ErrStreet)
		}
		z, e := town.Put(full(), x)
		expectSupply(t, i, z, full(), e, api.ErrFull)
	}
	for i, x := range streets(street(4, 0, 0, 0), street(4, 0, 100, 0, 1, 2), street(4, 100, 100, 100, 2), api.Street{Id: 4, Draws: ints()}) {
		for _, s := range []api.Supply{chapter(), dry()} {
			want := copied(s)
			want.Streets = append(want.Streets, x)
			z, e := town.Put(s, x)
			expectSupply(t, i, z, want, e, api.OK)
		}
	}
}

// badStreets is streets of which something is wrong.
func badStreets() []api.Street {
	l := streets(api.Street{}, street(4, 3, 2, 0), street(4, 3, 2, 3), street(4, 1, 1, 0, 1, 1), street(4, 1, 1, 0, 2, 1), street(4, 1, 1, 0, 1, 2, 3), street(4, 1, 1, 0, 1, 2, 2), street(4, 5, 9, 6, 1), api.Street{Id: 4, Draws: slices.Repeat(ints(1), 1<<20)})
	for _, n := range ints(0, 3, -1, 10000, huge, low) {
		l = append(l, street(4, 1, 1, 0, n))
	}
	for _, n := range ints(-1, 101, huge, low) {
		l = append(l, street(4, n, 100, 0, 1), street(4, 0, n, 0, 1), street(4, n, n, 0, 1), street(4, 50, 60, n, 1))
	}
	return l
}

// P9.8: each street is dropped, and all else is as it was.
func TestDrop(t *testing.T) {
	for _, s := range []api.Supply{chapter(), dry(), full(), ofIds(7), ofIds(1, 9999), ofIds(2, 4, 6)} {
		for i, x := range s.Streets {
			want := copied(s)
			want.Streets = slices.Delete(want.Streets, i, i+1)
			y, e := town.Drop(s, x.Id)
			expectSupply(t, x, y, want, e, api.OK)
			y, e = town.Put(y, x)
			expectSupply(t, x, y, s, e, api.OK)
		}
		for _, id := range ints(0, 3, -1, 8, 10000, huge, low) {
			if !slices.ContainsFunc(s.Streets, func(x api.Street) bool { return x.Id == id }) {
				y, e := town.Drop(s, id)
				expectSupply(t, id, y, s, e, api.ErrStreet)
			}
		}
	}
	y, e := town.Drop(ofIds(), 1)
	expectSupply(t, "none", y, ofIds(), e, api.ErrStreet)
}

// roomy is a list with memory behind its end, which must stay as it is.
func roomy[T any](l ...T) []T { return append(make([]T, 0, len(l)+5), l...) }

// roomyOne is a supply with memory behind the ends of all lists.
func roomyOne() api.Supply {
	s := chapter()
	s.Founts, s.Streets = roomy(s.Founts...), roomy(s.Streets...)
	for i := range s.Founts {
		x := &s.Founts[i].Spring
		x.Book, x.Readings = roomy(x.Book...), roomy(x.Readings...)
	}
	for i := range s.Streets {
		s.Streets[i].Draws = roomy(s.Streets[i].Draws...)
	}
	return s
}

// roomyGiven is what is told to each call so that few are denied.
func roomyGiven() given {
	j := wanting(1, 5)
	j.Sights, j.Brings = roomy(api.Sight{Id: 1, Day: 1, Pints: span(0, 9)}), roomy(api.Bring{Day: 1, Pints: 2})
	x := street(2, 1, 1, 1, 1, 2)
	x.Id, x.Draws = 4, roomy(x.Draws...)
	return given{week: 1, shares: roomy(9, 10, 5), fount: 1, street: 2, jars: roomy(j, wanting(1, 2)), day: 1, put: x}
}

// whole shows all memory behind a list.
func whole[T any](l []T) []T { return l[:cap(l)] }

func wholeSupply(s api.Supply) api.Supply {
	s.Founts, s.Streets = slices.Clone(whole(s.Founts)), slices.Clone(whole(s.Streets))
	for i := range s.Founts {
		x := &s.Founts[i].Spring
		x.Book, x.Readings = whole(x.Book), whole(x.Readings)
	}
	for i := range s.Streets {
		s.Streets[i].Draws = whole(s.Streets[i].Draws)
	}
	return s
}

func sameJar(a, b api.Jar) bool {
	return a.Full == b.Full && a.Days == b.Days && a.Start == b.Start && a.Use == b.Use && a.Week == b.Week && a.May == b.May && slices.Equal(whole(a.Sights), whole(b.Sights)) && slices.Equal(whole(a.Brings), whole(b.Brings))
}

// isAsBefore reports whether all that a call was told, and the memory behind it, is as it was.
func isAsBefore(s api.Supply, g given) bool {
	h := roomyGiven()
	return same(wholeSupply(s), wholeSupply(roomyOne())) && slices.Equal(whole(g.shares), whole(h.shares)) && slices.EqualFunc(whole(g.jars), whole(h.jars), sameJar) && slices.Equal(whole(g.put.Draws), whole(h.put.Draws))
}

// spoil writes over all memory of a list.
func spoil[T any](l []T, x T) {
	for i := range whole(l) {
		whole(l)[i] = x
	}
}

func (a told) spoil() {
	spoil(a.l, 77)
	spoil(a.pulls, pull(77, 77, 77))
	for _, x := range whole(a.s.Founts) {
		spoil(x.Spring.Book, api.Line{Week: 77})
		spoil(x.Spring.Readings, api.Reading{Number: 77})
	}
	for _, x := range whole(a.s.Streets) {
		spoil(x.Draws, 77)
	}
	spoil(a.s.Founts, api.Fount{Id: 77})
	spoil(a.s.Streets, api.Street{Id: 77})
}

// R3: no argument is written to, nothing is remembered, and no result shares memory with an argument or with another one.
func TestValues(t *testing.T) {
	for _, best := range []bool{false, true} {
		s, g := roomyOne(), roomyGiven()
		h := roomyGiven()
		g.best, h.best = best, best
		fresh := calls(h)
		for i, c := range calls(g) {
			a, b := c.run(s), c.run(s)
			want := fresh[i].run(roomyOne())
			if !a.equal(want) || !b.equal(want) || a.e != api.OK && a.e != api.ErrNone {
				t.Error(c.name, a, b, want)
			}
			if !isAsBefore(s, g) {
				t.Fatal(c.name, "writes", wholeSupply(s), g)
			}
			a.spoil()
			if !isAsBefore(s, g) || !b.equal(want) {
				t.Fatal(c.name, "shares memory", b)
			}
			if z := c.run(s); !z.equal(want) {
				t.Error(c.name, "remembers", z)
			}
		}
	}
}

// R3: lists of one result do not share memory either, though those of the argument do.
func TestApart(t *testing.T) {
	draws := ints(1, 2)
	s := chapter()
	s.Founts[1].Spring = s.Founts[0].Spring
	for i := range s.Streets {
		s.Streets[i].Draws = draws
	}
	for _, c := range changes(given{street: 2, jars: jars(wanting(1, 1)), put: street(4, 1, 1, 1, draws...)}) {
		z := c.run(s)
		if z.e != api.OK {
			t.Fatal(c.name, z)
		}
		spoil(z.s.Founts[0].Spring.Book, api.Line{})
		spoil(z.s.Founts[0].Spring.Readings, api.Reading{})
		if x := z.s.Founts[1]; !sameFount(x, s.Founts[1]) {
			t.Error(c.name, x)
		}
		for i, x := range z.s.Streets {
			spoil(x.Draws, 77)
			for _, y := range z.s.Streets[i+1:] {
				if !slices.Equal(y.Draws, ints(1, 2)) {
					t.Error(c.name, i, y)
				}
			}
		}
		if !slices.Equal(draws, ints(1, 2)) {
			t.Error(c.name, draws)
		}
	}
}

// R4: a nil list and an empty one are the same.
func TestNilAndEmpty(t *testing.T) {
	nils, empty := chapter(), chapter()
	for _, s := range []*api.Supply{&nils, &empty} {
		s.Streets = streets(street(1, 0, 0, 0), street(2, 0, 5, 0))
		s.Founts[1].Spring.Readings = nil
	}
	empty.Founts[1].Spring.Book, empty.Founts[1].Spring.Readings = []api.Line{}, []api.Reading{}
	for i := range empty.Streets {
		empty.Streets[i].Draws = []int{}
	}
	bare, without := nils, nils
	bare.Streets, without.Streets = nil, []api.Street{}
	g := given{fount: 2, street: 1, put: street(4, 1, 1, 1)}
	h := g
	h.shares, h.jars, h.put.Draws = []int{}, []api.Jar{}, []int{}
	filled, emptied := calls(g), calls(h)
	for i := range filled {
		for _, x := range [][2]api.Supply{{nils, empty}, {bare, without}, {{}, {Founts: []api.Fount{}, Streets: []api.Street{}}}} {
			if a, b := filled[i].run(x[0]), emptied[i].run(x[1]); !a.equal(b) {
				t.Error(filled[i].name, a, b)
			}
		}
	}
}

// places is where all numbers of a supply stand.
func places(s *api.Supply) (l []*int) {
	for i := range s.Founts {
		x := &s.Founts[i].Spring
		l = append(l, &s.Founts[i].Id, &x.Weeks, &x.Most, &x.Fall, &x.Song.Lo, &x.Song.Hi, &x.Winter.Lo, &x.Winter.Hi)
		for k := range x.Book {
			y := &x.Book[k]
			l = append(l, &y.Rain.Lo, &y.Rain.Hi, &y.Week, &y.Gives.Lo, &y.Gives.Hi)
		}
		for k := range x.Readings {
			y := &x.Readings[k]
			l = append(l, &y.Number, &y.Week, &y.Bucket, &y.Songs.Lo, &y.Songs.Hi)
		}
	}
	for i := range s.Streets {
		x := &s.Streets[i]
		l = append(l, &x.Id, &x.Need.Lo, &x.Need.Hi, &x.Least)
		for k := range x.Draws {
			l = append(l, &x.Draws[k])
		}
	}
	return l
}

// R5, R6, R7: whatever the arguments are, each call ends, and does not panic; supplies that are told are valid.
func TestAnyValue(t *testing.T) {
	r := &dice{state: 23}
	odd := ints(low, low+1, -1, 0, 1, 2, 3, 4, 5, 9, 10, 40, 99, 100, 101, 9999, 10000, huge-1, huge)
	near := func() int {
		if r.upTo(0, 9) == 0 {
			return r.one(odd)
		}
		return r.upTo(0, 3)
	}
	answered, valids := 0, 0
	for range 3000 {
		s := roomyOne()
		for _, p := range places(&s) {
			if r.upTo(0, 60) == 0 {
				*p = r.one(odd)
			}
		}
		j := wanting(near(), near())
		g := given{week: near(), best: r.upTo(0, 1) == 1, shares: ints(near(), near(), near()), fount: near(), street: near(), jars: jars(j, wanting(1, 2)), day: near(), put: street(4+near(), near(), near(), near(), 1, near())}
		valid := town.Check(s)
		if valid == api.OK {
			valids++
		}
		for _, c := range calls(g) {
			z := c.run(s)
			if z.e == api.OK && c.name != "Check" {
				answered++
			}
			if valid != api.OK && z.e != valid || z.e != api.OK && !z.isZero() {
				t.Fatal(c.name, s, g, z)
			}
			if z.e == api.OK && len(z.s.Founts) > 0 && town.Check(z.s) != api.OK {
				t.Fatal(c.name, s, g, z)
			}
		}
	}
	if answered < 4000 || valids < 700 || valids > 2500 {
		t.Error("too few of a kind:", answered, valids)
	}
}

// R7: lists however long are looked at, and each call ends.
func TestLongLists(t *testing.T) {
	many := 1 << 18
	long := chapter()
	long.Founts = slices.Repeat([]api.Fount{still(1, 1)}, many)
	checkBad(t, "founts", long)
	long = chapter()
	long.Streets = slices.Repeat(streets(street(1, 1, 1, 1, 1)), many)
	checkBad(t, "streets", long)
	long = chapter()
	long.Streets[1].Draws = slices.Repeat(ints(1), many)
	checkBad(t, "draws", long)
	long = chapter()
	long.Streets[1].Draws = numbers(span(1, many))
	checkBad(t, "rising draws", long)
	long = chapter()
	long.Founts[0].Spring.Book = slices.Repeat(long.Founts[0].Spring.Book, many)
	checkBad(t, "book", long)
}
