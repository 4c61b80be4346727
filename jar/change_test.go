package jar_test

import (
	"slices"
	"testing"

	"aguador/api"
	"aguador/jar"
)

// P5.8: a sight is put in its place.
func TestSee(t *testing.T) {
	for i, x := range []struct {
		j  api.Jar
		x  api.Sight
		at int
		e  api.Errno
	}{
		{chapter(), sight(2, 0, 0, 12), 1, api.OK}, {chapter(), sight(9999, 6, 12, 12), 1, api.OK}, {seen(chapter()), sight(1, 6, 0, 0), 0, api.OK}, {twos(3), sight(1, 0, 0, 0), 0, api.OK}, {twos(3), sight(3, 6, 0, 0), 1, api.OK}, {twos(11), sight(5, 0, 9, 9), 2, api.OK}, {twos(11), sight(23, 0, 9, 9), 11, api.OK}, {plain(1), sight(77, 0, 5, 5), 0, api.OK},
		// There may be no truth then, or none before.
		{chapter(), sight(2, 0, 9, 12), 1, api.OK}, {odd(), sight(3, 0, 0, 0), 2, api.OK},
		{twos(12), sight(1, 0, 0, 0), 0, api.ErrFull}, {twos(12), sight(2, 0, 0, 0), 0, api.ErrFull}, {twos(12), api.Sight{}, 0, api.ErrFull}, {great(), sight(1, 0, 0, 0), 0, api.ErrFull}, {twos(11), sight(4, 0, 0, 0), 0, api.ErrSight}, {twos(11), sight(22, 0, 0, 0), 0, api.ErrSight}, {twos(11), sight(2, 0, 0, 0), 0, api.ErrSight}, {chapter(), chapter().Sights[0], 0, api.ErrSight}, {chapter(), api.Sight{}, 0, api.ErrSight}, {plain(1), sight(1, 1, 0, 0), 0, api.ErrSight}, {plain(1), sight(1, 0, 6, 6), 0, api.ErrSight},
	} {
		checkSee(t, i, x.j, x.x, x.at, x.e)
	}
	for i, x := range badSights() {
		checkSee(t, i, chapter(), x, 0, api.ErrSight)
		checkSee(t, i, twos(11), x, 0, api.ErrSight)
		checkSee(t, i, twos(12), x, 0, api.ErrFull)
	}
}

func checkSee(t *testing.T, i int, j api.Jar, x api.Sight, at int, e api.Errno) {
	t.Helper()
	want := api.Jar{}
	if e == api.OK {
		want = j
		want.Sights = slices.Insert(slices.Clone(j.Sights), at, x)
	}
	if y, f := jar.See(j, x); !same(y, want) || f != e {
		t.Error(i, y, f)
	}
}

// P5.8: what is brought comes behind all of its day.
func TestBring(t *testing.T) {
	some := got(chapter(), bring(1, 3), bring(2, 4), bring(2, 5), bring(4, 6))
	full := got(chapter(), slices.Repeat([]api.Bring{bring(3, 1)}, 12)...)
	for i, x := range []struct {
		j  api.Jar
		x  api.Bring
		at int
		e  api.Errno
	}{
		{some, bring(0, 1), 0, api.OK}, {some, bring(1, 1), 1, api.OK}, {some, bring(2, 1), 3, api.OK}, {some, bring(3, 20), 3, api.OK}, {some, bring(4, 1), 4, api.OK}, {some, bring(6, 1), 4, api.OK}, {got(chapter()), bring(6, 20), 0, api.OK}, {odd(), bring(0, 1), 0, api.OK}, {got(full, full.Brings[1:]...), bring(3, 2), 11, api.OK}, {got(full, full.Brings[1:]...), bring(2, 2), 0, api.OK},
		{full, bring(3, 1), 0, api.ErrFull}, {full, api.Bring{}, 0, api.ErrFull}, {great(), bring(0, 1), 0, api.ErrFull}, {some, api.Bring{}, 0, api.ErrBring}, {plain(1), bring(1, 1), 0, api.ErrBring}, {plain(1), bring(0, 21), 0, api.ErrBring},
	} {
		checkBring(t, i, x.j, x.x, x.at, x.e)
	}
	for i, x := range badBrings() {
		checkBring(t, i, some, x, 0, api.ErrBring)
		checkBring(t, i, got(chapter()), x, 0, api.ErrBring)
		checkBring(t, i, full, x, 0, api.ErrFull)
	}
}

func checkBring(t *testing.T, i int, j api.Jar, x api.Bring, at int, e api.Errno) {
	t.Helper()
	want := api.Jar{}
	if e == api.OK {
		want = j
		want.Brings = slices.Insert(slices.Clone(j.Brings), at, x)
	}
	if y, f := jar.Bring(j, x); !same(y, want) || f != e {
		t.Error(i, y, f)
	}
}

// P5.8: only Ids of sights, in increasing order, no one twice.
func TestStrike(t *testing.T) {
	all := twos(4).Sights
	for i, x := range []struct {
		l    []int
		want []api.Sight
		e    api.Errno
	}{
		{nil, all, api.OK}, {ints(), all, api.OK}, {ints(2), all[1:], api.OK}, {ints(8), all[:3], api.OK}, {ints(4, 6), []api.Sight{all[0], all[3]}, api.OK}, {ints(2, 8), all[1:3], api.OK}, {ints(2, 4, 6, 8), nil, api.OK},
		{ints(4, 2), nil, api.ErrSight}, {ints(2, 2), nil, api.ErrSight}, {ints(3), nil, api.ErrSight}, {ints(0), nil, api.ErrSight}, {ints(-2), nil, api.ErrSight}, {ints(2, 10), nil, api.ErrSight}, {ints(1, 2), nil, api.ErrSight}, {ints(2, 4, 6, 8, 10), nil, api.ErrSight}, {ints(low), nil, api.ErrSight}, {ints(2, huge), nil, api.ErrSight}, {ints(huge, low), nil, api.ErrSight},
	} {
		want := api.Jar{}
		if x.e == api.OK {
			want = seen(chapter(), x.want...)
		}
		if y, e := jar.Strike(twos(4), x.l); !same(y, want) || e != x.e {
			t.Error(i, y, e)
		}
	}
	// Jars of which there is no truth, with and without the sight.
	bad := wanting(plain(7, sight(1, 0, 0, 0)), span(2, 2), span(0, 13))
	if y, e := jar.Strike(bad, ints(1)); !same(y, seen(bad)) || e != api.OK {
		t.Error(y, e)
	}
	expect(t, plain(2), given{ids: ints(1)}, api.ErrSight, "Strike")
}

// roomy is a jar with memory behind the ends of its lists, which must stay as it is.
func roomy() api.Jar {
	j := seen(chapter(bring(4, 2), bring(5, 2)), sight(1, 1, 2, 5), sight(4, 0, 0, 12))
	j.Sights = append(make([]api.Sight, 0, 14), j.Sights...)
	j.Brings = append(make([]api.Bring, 0, 14), j.Brings...)
	return j
}

// whole shows the memory of the lists up to its end.
func whole(j api.Jar) api.Jar {
	j.Sights = j.Sights[:cap(j.Sights)]
	j.Brings = j.Brings[:cap(j.Brings)]
	return j
}

// spoil writes over all memory of what was told.
func (a told) spoil() {
	j := whole(a.j)
	for i := range a.l[:cap(a.l)] {
		a.l[:cap(a.l)][i] = 77
	}
	for i := range j.Sights {
		j.Sights[i].Id = 77
	}
	for i := range j.Brings {
		j.Brings[i].Pints = 77
	}
}

// full asks for something of a jar that is roomy.
func full(days, ids []int) given {
	return given{day: 3, pints: 1, days: days, ids: ids, sight: sight(2, 6, 0, 12), bring: bring(2, 3)}
}

// R3: no argument is written to, nothing is remembered, and no result shares memory with an argument or with another one.
func TestValues(t *testing.T) {
	j := roomy()
	days, ids := append(make([]int, 0, 5), 3, 5), append(make([]int, 0, 4), 1, 4)
	unchanged := func() bool {
		return same(whole(j), whole(roomy())) && slices.Equal(days[:5], ints(3, 5, 0, 0, 0)) && slices.Equal(ids[:4], ints(1, 4, 0, 0))
	}
	fresh := calls(full(ints(3, 5), ints(1, 4)))
	for i, c := range calls(full(days, ids)) {
		a := c.run(j)
		b := c.run(j)
		want := fresh[i].run(roomy())
		if !a.equal(want) || !b.equal(want) || a.e != api.OK && a.e != api.ErrNone {
			t.Error(c.name, a, b, want)
		}
		if !unchanged() {
			t.Error(c.name, "writes", whole(j), days[:5], ids[:4])
		}
		a.spoil()
		if !unchanged() || !b.equal(want) {
			t.Error(c.name, "shares memory", b)
		}
		if z := c.run(j); !z.equal(want) {
			t.Error(c.name, "remembers", z)
		}
	}
}

// R4: a nil list and an empty one are the same.
func TestNilAndEmpty(t *testing.T) {
	g := given{pints: 1, sight: sight(1, 0, 0, 1), bring: bring(0, 1)}
	with := calls(g)
	g.days, g.ids = ints(), ints()
	without := calls(g)
	for _, j := range []api.Jar{{}, {Full: 1, Days: 1}, plain(3), open(plain(3)), wanting(plain(7), span(2, 2), span(0, 13))} {
		empty := j
		empty.Sights, empty.Brings = []api.Sight{}, []api.Bring{}
		for i := range with {
			if a, b := with[i].run(j), without[i].run(empty); !a.equal(b) {
				t.Error(with[i].name, a, b)
			}
		}
	}
}

// R5, R6, R7: whatever the arguments are, each call ends, and does not panic.
func TestAnyValue(t *testing.T) {
	r := &dice{state: 3}
	odd := ints(low, low+1, -1, 0, 1, 2, 3, 4, 5, 6, 7, 8, 10, 11, 12, 13, 20, 21, 9999, 10000, huge-1, huge)
	near := func() int {
		if r.upTo(0, 9) == 0 {
			return r.one(odd)
		}
		return r.upTo(1, 5)
	}
	answered := 0
	for range 3000 {
		j := roomy()
		for _, p := range []*int{&j.Full, &j.Days, &j.Start.Lo, &j.Start.Hi, &j.Use.Lo, &j.Use.Hi, &j.Week.Lo, &j.Week.Hi, &j.Sights[0].Id, &j.Sights[1].Day, &j.Sights[0].Pints.Lo, &j.Sights[1].Pints.Hi, &j.Brings[0].Day, &j.Brings[1].Pints} {
			if r.upTo(0, 30) == 0 {
				*p = r.one(odd)
			}
		}
		j.May = uint8(max(0, r.upTo(-9, 3)))
		g := given{
			day: near(), week: near() - 2, pints: near(), days: ints(near(), near()), ids: ints(near(), near()),
			sight: sight(near(), near(), near(), near()), bring: bring(near(), near()),
		}
		for _, c := range calls(g) {
			z := c.run(j)
			if (z.e == api.ErrJar) != (jar.Check(j) == api.ErrJar) || z.e != api.OK && !z.isZero() {
				t.Fatal(c.name, j, g, z)
			}
			if !same(z.j, api.Jar{}) && jar.Check(z.j) != api.OK {
				t.Fatal(c.name, j, g, z)
			}
			if z.e == api.OK && c.name != "Check" {
				answered++
			}
		}
	}
	if answered < 10000 {
		t.Error("too few calls answer:", answered)
	}
}

// R7: lists however long are looked at, and each call ends.
func TestLongLists(t *testing.T) {
	g := full(slices.Repeat(ints(6), 1<<20), slices.Repeat(ints(1), 1<<20))
	expect(t, roomy(), g, api.ErrDay, "Dry")
	expect(t, roomy(), g, api.ErrSight, "Strike")
	long := []api.Jar{chapter(), chapter()}
	long[0].Sights = slices.Repeat([]api.Sight{sight(1, 0, 0, 1)}, 1<<20)
	long[1].Brings = slices.Repeat([]api.Bring{bring(0, 1)}, 1<<20)
	for _, j := range long {
		for _, c := range calls(g) {
			if z := c.run(j); z.e != api.ErrJar || !z.isZero() {
				t.Error(c.name, z.e)
			}
		}
	}
}

// R7: jars of which the most is open are told of, too.
func TestMostOpen(t *testing.T) {
	j := got(great())
	for i := range j.Sights {
		j.Sights[i].Pints = span(i, i)
	}
	if l, e := jar.Wrong(j); len(l) != 0 || e != api.ErrMany {
		t.Error(l, e)
	}
	j.Sights = nil
	expect(t, j, given{pints: 20}, api.ErrMany, "Fewest")
	expect(t, j, given{}, api.ErrNone, "Must", "Idle")
	for day := range j.Days {
		if x, e := jar.Holds(j, day); x != span(0, 20) || e != api.OK {
			t.Error(day, x, e)
		}
	}
}
