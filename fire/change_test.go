package fire_test

import (
	"slices"
	"testing"

	"aguador/api"
	"aguador/fire"
)

// ofClaims is a bell with claims of these numbers, each of which says something else.
func ofClaims(numbers ...int) api.Bell {
	b := chapter()
	for i, n := range numbers {
		b.Claims = append(b.Claims, claim(n, i%4+1, 10*i))
	}
	return b
}

// P10.7: a claim is put in its place.
func TestPut(t *testing.T) {
	eight := ints(2, 3, 4, 5, 6, 7, 8, 9)
	for i, x := range []struct {
		before []int
		number int
		at     int
		e      api.Errno
	}{
		{nil, 1, 0, api.OK}, {nil, 9999, 0, api.OK}, {ints(2, 4, 6), 1, 0, api.OK}, {ints(2, 4, 6), 3, 1, api.OK}, {ints(2, 4, 6), 5, 2, api.OK}, {ints(2, 4, 6), 7, 3, api.OK}, {ints(2, 4, 6), 9999, 3, api.OK}, {eight[:7], 9, 7, api.OK}, {eight[1:], 2, 0, api.OK},
		{ints(2, 4, 6), 2, 0, api.ErrClaim}, {ints(2, 4, 6), 4, 0, api.ErrClaim}, {ints(2, 4, 6), 6, 0, api.ErrClaim}, {nil, 0, 0, api.ErrClaim}, {nil, -1, 0, api.ErrClaim}, {nil, 10000, 0, api.ErrClaim}, {nil, huge, 0, api.ErrClaim}, {nil, low, 0, api.ErrClaim}, {ints(2, 4, 6), 0, 0, api.ErrClaim}, {ints(2, 4, 6), low, 0, api.ErrClaim}, {ints(2, 4, 6), 10000, 0, api.ErrClaim}, {ints(2, 4, 6), huge, 0, api.ErrClaim},
		{eight, 1, 0, api.ErrFull}, {eight, 10, 0, api.ErrFull}, {eight, 4, 0, api.ErrFull}, {eight, 0, 0, api.ErrFull}, {eight, huge, 0, api.ErrFull},
	} {
		want := ofClaims(x.before...)
		y := claim(x.number, 3, 77)
		want.Claims = slices.Insert(want.Claims, x.at, y)
		z, e := fire.Put(ofClaims(x.before...), y)
		expectBell(t, i, z, want, e, x.e)
	}
	for i, x := range []struct {
		porter, minute int
		e              api.Errno
	}{
		{1, 0, api.OK}, {4, huge, api.OK}, {2, 1000000, api.OK}, {0, 0, api.ErrClaim}, {5, 0, api.ErrClaim}, {-1, 0, api.ErrClaim}, {10, 0, api.ErrClaim}, {9999, 0, api.ErrClaim}, {huge, 0, api.ErrClaim}, {low, 0, api.ErrClaim}, {1, -1, api.ErrClaim}, {1, low, api.ErrClaim}, {5, -1, api.ErrClaim},
	} {
		want := ofClaims(2, 4, 6)
		y := claim(5, x.porter, x.minute)
		want.Claims = slices.Insert(want.Claims, 2, y)
		z, e := fire.Put(ofClaims(2, 4, 6), y)
		expectBell(t, i, z, want, e, x.e)
		y.Number = 1
		_, e = fire.Put(ofClaims(eight...), y)
		expectBell(t, i, api.Bell{}, api.Bell{}, e, api.ErrFull)
	}
}

// P10.7: claims are struck by their numbers, also one with the same porter as another one, and none.
func TestStrike(t *testing.T) {
	for i, x := range []struct {
		numbers []int
		left    []int // indices
		e       api.Errno
	}{
		{nil, ints(0, 1, 2, 3, 4), api.OK}, {ints(), ints(0, 1, 2, 3, 4), api.OK}, {ints(1), ints(1, 2, 3, 4), api.OK}, {ints(3), ints(0, 2, 3, 4), api.OK}, {ints(9999), ints(0, 1, 2, 3), api.OK}, {ints(3, 7), ints(0, 2, 4), api.OK}, {ints(1, 9999), ints(1, 2, 3), api.OK}, {ints(1, 3, 4, 7, 9999), nil, api.OK},
		{ints(0), nil, api.ErrClaim}, {ints(2), nil, api.ErrClaim}, {ints(-1), nil, api.ErrClaim}, {ints(10000), nil, api.ErrClaim}, {ints(huge), nil, api.ErrClaim}, {ints(low), nil, api.ErrClaim}, {ints(1, 2), nil, api.ErrClaim}, {ints(2, 3), nil, api.ErrClaim}, {ints(3, 1), nil, api.ErrClaim}, {ints(3, 3), nil, api.ErrClaim}, {ints(1, 7, 4), nil, api.ErrClaim}, {ints(1, 3, 4, 7, 9998, 9999), nil, api.ErrClaim}, {ints(1, 3, 4, 7, 9999, huge), nil, api.ErrClaim}, {slices.Repeat(ints(1), 1<<20), nil, api.ErrClaim},
	} {
		b := ofClaims(1, 3, 4, 7, 9999)
		want := b
		want.Claims = nil
		for _, at := range x.left {
			want.Claims = append(want.Claims, b.Claims[at])
		}
		y, e := fire.Strike(b, x.numbers)
		expectBell(t, i, y, want, e, x.e)
	}
	y, e := fire.Strike(chapter(), nil)
	expectBell(t, "none", y, chapter(), e, api.OK)
	y, e = fire.Strike(chapter(), ints(1))
	expectBell(t, "none", y, chapter(), e, api.ErrClaim)
}

// ofPorters is a bell with porters of these Ids, with a claim for the first one.
func ofPorters(ids ...int) api.Bell {
	b := chapter()
	b.Porters = nil
	for i, id := range ids {
		b.Porters = append(b.Porters, api.Porter{Id: id, At: i%4 + 1, Full: i%2 == 0})
	}
	if len(ids) > 0 {
		b.Claims = claims(claim(1, ids[0], 4))
	}
	return b
}

// P10.7: a porter joins in its place.
func TestJoin(t *testing.T) {
	six := ints(2, 3, 4, 5, 6, 7)
	for i, x := range []struct {
		before []int
		join   api.Porter
		at     int
		e      api.Errno
	}{
		{nil, full(1, 1), 0, api.OK}, {nil, empty(9999, 4), 0, api.OK}, {ints(2, 4, 6), empty(1, 3), 0, api.OK}, {ints(2, 4, 6), full(3, 3), 1, api.OK}, {ints(2, 4, 6), full(5, 2), 2, api.OK}, {ints(2, 4, 6), empty(7, 1), 3, api.OK}, {six[:5], empty(9999, 1), 5, api.OK}, {six[1:], empty(1, 1), 0, api.OK},
		{ints(2, 4, 6), full(2, 1), 0, api.ErrPorter}, {ints(2, 4, 6), full(4, 1), 0, api.ErrPorter}, {ints(2, 4, 6), full(6, 1), 0, api.ErrPorter}, {nil, full(0, 1), 0, api.ErrPorter}, {nil, full(-1, 1), 0, api.ErrPorter}, {nil, full(10000, 1), 0, api.ErrPorter}, {nil, full(huge, 1), 0, api.ErrPorter}, {nil, full(low, 1), 0, api.ErrPorter}, {ints(2, 4, 6), full(0, 1), 0, api.ErrPorter}, {ints(2, 4, 6), full(low, 1), 0, api.ErrPorter}, {ints(2, 4, 6), full(10000, 1), 0, api.ErrPorter}, {ints(2, 4, 6), full(huge, 1), 0, api.ErrPorter},
		{nil, full(1, 0), 0, api.ErrPorter}, {nil, empty(1, 5), 0, api.ErrPorter}, {nil, empty(1, -1), 0, api.ErrPorter}, {nil, empty(1, huge), 0, api.ErrPorter}, {nil, empty(1, low), 0, api.ErrPorter}, {ints(2, 4, 6), empty(3, 5), 0, api.ErrPorter},
		{six, full(1, 1), 0, api.ErrFull}, {six, full(8, 1), 0, api.ErrFull}, {six, full(4, 1), 0, api.ErrFull}, {six, full(0, 0), 0, api.ErrFull}, {six, full(huge, huge), 0, api.ErrFull},
	} {
		want := ofPorters(x.before...)
		want.Porters = slices.Insert(want.Porters, x.at, x.join)
		z, e := fire.Join(ofPorters(x.before...), x.join)
		expectBell(t, i, z, want, e, x.e)
	}
}

// P10.7: each porter leaves, with all its claims, and each well is stopped, and all else is as it was.
func TestLeaveAndStop(t *testing.T) {
	three := chapter(func(b *api.Bell) {
		b.Wells = wells(well(1, 1, 1), well(4, 2, 2), well(9999, 1, 3))
		b.Claims = claims(claim(1, 2, 0), claim(2, 1, 9), claim(5, 2, 9), claim(9, 4, 9), claim(11, 2, 3), claim(12, 1, 3))
	})
	for _, b := range []api.Bell{chapter(), most(), three, ofPorters(7), ofPorters(1, 9999), ofPorters(2, 4, 6)} {
		for i, x := range b.Porters {
			want := copied(b)
			want.Porters = slices.Delete(want.Porters, i, i+1)
			want.Claims = nil
			for _, y := range b.Claims {
				if y.Porter != x.Id {
					want.Claims = append(want.Claims, y)
				}
			}
			y, e := fire.Leave(b, x.Id)
			expectBell(t, x, y, want, e, api.OK)
			if e := fire.Check(y); e != api.OK {
				t.Error(x, y, e)
			}
			y, e = fire.Join(y, x)
			want.Porters = b.Porters
			expectBell(t, x, y, want, e, api.OK)
		}
		for i, x := range b.Wells {
			want := copied(b)
			want.Wells = slices.Delete(want.Wells, i, i+1)
			y, e := fire.Stop(b, x.Id)
			expectBell(t, x, y, want, e, api.OK)
		}
		for _, id := range ints(0, 8, -1, 10000, huge, low) {
			expect(t, b, given{porter: id, well: id}, api.ErrNone, "Leave", "Stop")
		}
	}
	expect(t, star(nil, nil), given{porter: 1, well: 1}, api.ErrNone, "Leave", "Stop")
}

// roomy is a list with memory behind its end, which must stay as it is.
func roomy[T any](l ...T) []T { return append(make([]T, 0, len(l)+5), l...) }

// roomyOne is a bell with memory behind the ends of all lists.
func roomyOne() api.Bell {
	b := claimed(claim(1, 1, 4), claim(2, 4, 4), claim(4, 3, 7))
	b.Wells = append(b.Wells, well(11, 4, 3))
	b.Town.Places, b.Town.Links = roomy(b.Town.Places...), roomy(b.Town.Links...)
	b.Wells, b.Porters, b.Claims = roomy(b.Wells...), roomy(b.Porters...), roomy(b.Claims...)
	return b
}

// roomyGiven is what is told to each call so that none is denied.
func roomyGiven() given {
	return given{porter: 1, well: 10, minute: 5, skins: 2, fee: 5, first: 3, numbers: roomy(1, 4), put: claim(3, 2, 9), join: empty(3000, 2)}
}

// whole shows all memory behind a list.
func whole[T any](l []T) []T { return l[:cap(l)] }

func wholeBell(b api.Bell) api.Bell {
	b.Town.Places, b.Town.Links = whole(b.Town.Places), whole(b.Town.Links)
	b.Wells, b.Porters, b.Claims = whole(b.Wells), whole(b.Porters), whole(b.Claims)
	return b
}

// isAsBefore reports whether all that a call was told, and the memory behind it, is as it was.
func isAsBefore(b api.Bell, g given) bool {
	return same(wholeBell(b), wholeBell(roomyOne())) && slices.Equal(whole(g.numbers), whole(roomyGiven().numbers))
}

// spoil writes over all memory of a list.
func spoil[T any](l []T, x T) {
	for i := range whole(l) {
		whole(l)[i] = x
	}
}

func (a told) spoil() {
	spoil(a.l, 77)
	spoil(a.tasks, task(77, 77, 77, 77))
	spoil(a.beats, api.Beat{Well: 77, Beat: 77})
	spoil(a.wages, wage(77, 77))
	spoil(a.b.Town.Places, 77)
	spoil(a.b.Town.Links, link(77, 77, 77, 77, 77))
	spoil(a.b.Wells, well(77, 77, 77))
	spoil(a.b.Porters, full(77, 77))
	spoil(a.b.Claims, claim(77, 77, 77))
}

// R3: no argument is written to, nothing is remembered, and no result shares memory with an argument or with another one.
func TestValues(t *testing.T) {
	b, g := roomyOne(), roomyGiven()
	fresh := calls(roomyGiven())
	for i, c := range calls(g) {
		x, y := c.run(b), c.run(b)
		want := fresh[i].run(roomyOne())
		if !x.equal(want) || !y.equal(want) || x.e != api.OK {
			t.Error(c.name, x, y, want)
		}
		if !isAsBefore(b, g) {
			t.Fatal(c.name, "writes", wholeBell(b), g)
		}
		x.spoil()
		if !isAsBefore(b, g) || !y.equal(want) {
			t.Fatal(c.name, "shares memory", y)
		}
		if z := c.run(b); !z.equal(want) {
			t.Error(c.name, "remembers", z)
		}
	}
}

// R3: a change leaves the lists that it does not change in memory of their own, also if nothing is changed at all.
func TestChangesOfNothing(t *testing.T) {
	b := roomyOne()
	y, e := fire.Strike(b, nil)
	expectBell(t, "Strike", y, roomyOne(), e, api.OK)
	told{b: y}.spoil()
	if !isAsBefore(b, roomyGiven()) {
		t.Error(b)
	}
}

// R4: a nil list and an empty one are the same.
func TestNilAndEmpty(t *testing.T) {
	nils := star(nil, nil)
	empties := nils
	empties.Town.Links, empties.Wells, empties.Porters, empties.Claims = []api.Link{}, wells(), porters(), claims()
	some, someEmpty := nils, empties
	some.Porters, someEmpty.Porters = porters(full(1, 1)), porters(full(1, 1))
	g := given{porter: 1, skins: 1, minute: 5, put: claim(1, 1, 0), join: full(2, 1)}
	h := g
	h.numbers = ints()
	filled, emptied := calls(g), calls(h)
	for i := range filled {
		for _, x := range [][2]api.Bell{{nils, empties}, {some, someEmpty}, {{}, {Town: api.Town{Places: ints()}, Wells: wells(), Porters: porters(), Claims: claims()}}} {
			if a, b := filled[i].run(x[0]), emptied[i].run(x[1]); !a.equal(b) {
				t.Error(filled[i].name, a, b)
			}
		}
	}
}

// places is where all numbers of a bell stand.
func places(b *api.Bell) (l []*int) {
	l = append(l, &b.Gait.Pace.Lo, &b.Gait.Pace.Hi, &b.Gait.Step.Lo, &b.Gait.Step.Hi, &b.Place)
	for i := range b.Town.Places {
		l = append(l, &b.Town.Places[i])
	}
	for i := range b.Town.Links {
		x := &b.Town.Links[i]
		l = append(l, &x.Id, &x.From, &x.To, &x.Steps, &x.Paces)
	}
	for i := range b.Wells {
		x := &b.Wells[i]
		l = append(l, &x.Id, &x.Place, &x.Every)
	}
	for i := range b.Porters {
		x := &b.Porters[i]
		l = append(l, &x.Id, &x.At)
	}
	for i := range b.Claims {
		x := &b.Claims[i]
		l = append(l, &x.Number, &x.Porter, &x.Minute)
	}
	return l
}

// R5, R6, R7: whatever the arguments are, each call ends, and does not panic; bells that are told are valid.
func TestAnyValue(t *testing.T) {
	d := &dice{state: 23}
	odd := ints(low, low+1, -1, 0, 1, 2, 3, 4, 5, 10, 11, 15, 20, 500, 2000, 9999, 10000, api.MaxPence, huge-1, huge)
	near := func() int {
		if d.upTo(0, 9) == 0 {
			return d.one(odd)
		}
		return d.upTo(0, 4)
	}
	answered, valids := 0, 0
	for range 5000 {
		b := roomyOne()
		for _, p := range places(&b) {
			if d.upTo(0, 60) == 0 {
				*p = d.one(odd)
			}
		}
		g := given{porter: near(), well: d.one(ints(10, 11, near())), minute: near(), skins: near(), fee: near(), first: near(), numbers: ints(near(), near()), put: claim(near(), near(), near()), join: api.Porter{Id: near() + 3, At: near(), Full: d.upTo(0, 1) == 0}}
		valid := fire.Check(b)
		valids += number(valid == api.OK)
		for _, c := range calls(g) {
			z := c.run(b)
			answered += number(z.e == api.OK && c.name != "Check")
			if valid != api.OK && z.e != valid || z.e != api.OK && !z.isZero() {
				t.Fatal(c.name, b, g, z)
			}
			if z.e == api.OK && len(z.b.Town.Places) > 0 && fire.Check(z.b) != api.OK {
				t.Fatal(c.name, b, g, z)
			}
		}
	}
	if answered < 8000 || valids < 1000 || valids > 4000 {
		t.Error("too few of a kind:", answered, valids)
	}
}

// R7: lists however long are looked at, and each call ends.
func TestLongLists(t *testing.T) {
	many := 1 << 18
	for name, change := range map[string]func(b *api.Bell){
		"places":  func(b *api.Bell) { b.Town.Places = numbers(many)[1:] },
		"links":   func(b *api.Bell) { b.Town.Links = slices.Repeat(b.Town.Links, many) },
		"wells":   func(b *api.Bell) { b.Wells = slices.Repeat(b.Wells, many) },
		"porters": func(b *api.Bell) { b.Porters = slices.Repeat(b.Porters, many) },
		"claims":  func(b *api.Bell) { b.Claims = slices.Repeat(claims(claim(1, 1, 1)), many) },
	} {
		checkBad(t, name, chapter(change))
	}
}

// R7, P1: as many of all as there can be, at ways as long as they can be.
func TestMost(t *testing.T) {
	b := most()
	if fire.Check(b) != api.OK {
		t.Fatal(b)
	}
	l, e := fire.Send(b)
	if len(l) != len(b.Porters) || e != api.OK {
		t.Error(l, e)
	}
	for i := range l {
		n, e := fire.By(b, huge)
		m, f := fire.When(b, i+1)
		if n != len(b.Porters) || m > 10000 || e != api.OK || f != api.OK {
			t.Error(n, e, m, f)
		}
	}
	if is, e := fire.True(b); !is || e != api.OK {
		t.Error(is, e)
	}
	if l, e := fire.Wages(b, 1, 1); len(l) != 4 || e != api.OK {
		t.Error(l, e)
	}
	expect(t, b, given{put: claim(1, 1, 1), join: full(10, 9991)}, api.ErrFull, "Put", "Join")
}
