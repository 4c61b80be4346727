package warden_test

import (
	"fmt"
	"reflect"
	"slices"
	"strings"
	"testing"

	"aguador/api"
	"aguador/warden"
)

// piece is memory from an address up to another one.
type piece struct{ from, to uintptr }

// memory is the pieces behind all lists of a value.
func memory(v reflect.Value) (l []piece) {
	switch v.Kind() {
	case reflect.Struct:
		for i := range v.NumField() {
			l = append(l, memory(v.Field(i))...)
		}
	case reflect.Slice:
		if size := uintptr(v.Cap()) * v.Type().Elem().Size(); size > 0 && v.Type().Elem().Kind() != reflect.String {
			l = append(l, piece{v.Pointer(), v.Pointer() + size})
		}
		for i := range v.Len() {
			l = append(l, memory(v.Index(i))...)
		}
	}
	return l
}

// shared reports whether two of the pieces have memory together.
func shared(l []piece) bool {
	l = slices.Clone(l)
	slices.SortFunc(l, func(a, b piece) int { return int(a.from) - int(b.from) })
	for i := range len(l) - 1 {
		if l[i].to > l[i+1].from {
			return true
		}
	}
	return false
}

// whole shows all memory behind the lists of a value, and behind their ends.
func whole(v reflect.Value) string {
	switch v.Kind() {
	case reflect.Struct:
		s := ""
		for i := range v.NumField() {
			s += whole(v.Field(i))
		}
		return s
	case reflect.Slice:
		s := fmt.Sprint("(", v.Len(), v.Cap())
		for i := range v.Cap() {
			s += whole(v.Slice(0, v.Cap()).Index(i))
		}
		return s + ")"
	}
	return fmt.Sprint(v.Interface(), " ")
}

// roomyOne is a post with memory behind the ends of all lists, which must stay as it is.
func roomyOne() api.Post {
	p := rich()
	renew(reflect.ValueOf(&p).Elem(), 3)
	return p
}

// roomyGiven is a deed alone, and among others.
func roomyGiven(d api.Deed) given {
	g := given{x: order(1, 6, 4, 1), d: d, l: deeds(d, deed(api.VerbAsk, 5, 0, 0), d, deed(api.VerbStop, 10)), s: "stop 1", file: richFile, lines: lineOf(d) + "\n"}
	renew(reflect.ValueOf(&g.d).Elem(), 3)
	renew(reflect.ValueOf(&g.l).Elem(), 3)
	return g
}

// isAsBefore reports whether all that a call was told, and the memory behind it, is as it was.
func isAsBefore(p api.Post, g given) bool {
	q, h := roomyOne(), roomyGiven(deed(g.d.Verb, g.d.Args...))
	same := func(a, b any) bool { return whole(reflect.ValueOf(a)) == whole(reflect.ValueOf(b)) }
	return same(p, q) && same(g.d, h.d) && same(g.l, h.l)
}

// someOfEach is deeds of each verb, most of which the rich post does not deny.
func someOfEach(t *testing.T) []api.Deed {
	l := heard(t, "read 2 9 1 3 4 5", "note 9 1 3 4", "come 9 2 5 3", "fill 1 1 1", "pour 3 2 1", "lose 3 2", "rinse 2", "taste 9 3 5 2 1 4", "see 10 9 2 3 4", "hire 9 4 1 2 10 20", "dismiss 5", "notch 3", "bill 9 4 50 1 9 3 2", "pay 4 1 40", "need 11 5 9 4", "claim 9 4 7", "join 9 2 1", "stop 12", "close 2", "order 9 7 5 6", "order 1 5 1 0", "drop 3", "ask 5 0 0", "rinse 3", "guard 2 1")
	return append(l, allDeeds()...)
}

// R3: no argument is written to, nothing is remembered, and no result shares memory with an argument, with another result, or within.
func TestValues(t *testing.T) {
	for _, d := range someOfEach(t) {
		p, g := roomyOne(), roomyGiven(d)
		told := append(calls(g), others(g)...)
		fresh := append(calls(roomyGiven(d)), others(roomyGiven(d))...)
		arguments := slices.Concat(memory(reflect.ValueOf(p)), memory(reflect.ValueOf(g)))
		for i, c := range told {
			want := fresh[i].run(roomyOne())
			a, b := c.run(p), c.run(p)
			if !a.equal(want) || !b.equal(want) || a.e != api.OK {
				t.Fatal(c.name, lineOf(d), a, want)
			}
			if !isAsBefore(p, g) {
				t.Fatal(c.name, lineOf(d), "writes")
			}
			if shared(slices.Concat(arguments, memory(reflect.ValueOf(a)), memory(reflect.ValueOf(b)))) {
				t.Fatal(c.name, lineOf(d), "shares memory")
			}
			if z := c.run(p); !z.equal(want) {
				t.Fatal(c.name, lineOf(d), "remembers", z)
			}
		}
	}
}

// R3: lists of one result do not share memory either, though those of the argument do.
func TestApart(t *testing.T) {
	town := chapter().Town
	for _, d := range someOfEach(t) {
		p := rich()
		p.Town, p.Rounds.Town, p.Bell.Town = town, town, town
		p.Dawn.Ranks = ints(1, 2, 2, 1)[:3]
		p.Floors.Bills[1].Stakes = p.Floors.Bills[0].Stakes
		p.Rounds.Homes[1].Jar = p.Rounds.Homes[0].Jar
		p.Rounds.Carriers[1].Homes = p.Rounds.Carriers[0].Homes
		p.Supply.Founts[1].Spring = p.Supply.Founts[0].Spring
		p.Supply.Streets[1].Draws = p.Supply.Streets[0].Draws
		p.Tally.Foil = p.Tally.Stock
		before := copied(p)
		q, _, e := warden.Do(p, d)
		if e != api.OK || shared(memory(reflect.ValueOf(q))) || shared(slices.Concat(memory(reflect.ValueOf(q)), memory(reflect.ValueOf(copied(p))))) || !same(p, before) {
			t.Error(lineOf(d), e)
		}
		want, _ := done(before, d)
		if !same(q, want) {
			t.Error(lineOf(d), q)
		}
	}
	if !same(api.Post{Town: town}, api.Post{Town: chapter().Town}) {
		t.Error("written to", town)
	}
}

// emptied has an empty list wherever there was none.
func emptied(v reflect.Value) {
	switch v.Kind() {
	case reflect.Struct:
		for i := range v.NumField() {
			emptied(v.Field(i))
		}
	case reflect.Slice:
		if v.Len() == 0 {
			v.Set(reflect.MakeSlice(v.Type(), 0, 0))
		}
		for i := range v.Len() {
			emptied(v.Index(i))
		}
	}
}

// nilled has none wherever there was an empty list.
func nilled(v reflect.Value) {
	switch v.Kind() {
	case reflect.Struct:
		for i := range v.NumField() {
			nilled(v.Field(i))
		}
	case reflect.Slice:
		if v.Len() == 0 {
			v.SetZero()
		}
		for i := range v.Len() {
			nilled(v.Index(i))
		}
	}
}

// R4: a nil list and an empty one are the same.
func TestNilAndEmpty(t *testing.T) {
	noLinks := func(p *api.Post) {
		p.Town.Links, p.Rounds.Town.Links, p.Bell.Town.Links = nil, []api.Link{}, nil
	}
	for i, p := range []api.Post{chapter(), rich(), bare(), chapter(noOrders, noLinks), rich(noOrders, noLinks), {}} {
		none, empty, mixed := copied(p), copied(p), copied(p)
		nilled(reflect.ValueOf(&none).Elem())
		emptied(reflect.ValueOf(&empty).Elem())
		mixed.Town, mixed.Bell.Town = empty.Town, none.Bell.Town
		for _, d := range append(someOfEach(t), api.Deed{}) {
			g := given{x: order(1, 5, 0, 0), d: d, l: deeds(d, d)}
			for _, c := range calls(g) {
				a, b, z := c.run(none), c.run(empty), c.run(mixed)
				if !a.equal(b) || !a.equal(z) {
					t.Error(i, lineOf(d), c.name, a, b, z)
				}
			}
		}
		nils, empties := calls(given{}), calls(given{d: api.Deed{Args: ints()}, l: deeds()})
		for k := range nils {
			if a, b := nils[k].run(none), empties[k].run(empty); !a.equal(b) {
				t.Error(i, nils[k].name, a, b)
			}
		}
	}
	for _, verb := range ints(0, api.VerbStop, api.VerbHire, 24) {
		for _, args := range [][]int{nil, {}} {
			expect(t, chapter(), given{d: deed(verb, args...)}, api.ErrSpeak, "Speak", "Touch", "Why", "Do")
		}
	}
}

// places is where all numbers of a value stand.
func places(v reflect.Value) (l []reflect.Value) {
	switch v.Kind() {
	case reflect.Struct:
		for i := range v.NumField() {
			l = append(l, places(v.Field(i))...)
		}
	case reflect.Slice:
		for i := range v.Len() {
			l = append(l, places(v.Index(i))...)
		}
	case reflect.Int:
		l = append(l, v)
	}
	return l
}

// R5, R6, R7: whatever the arguments are, each call ends, and does not panic; posts that are told are valid.
func TestAnyValue(t *testing.T) {
	t.Parallel()
	r := &dice{state: 23}
	odd := ints(low, low+1, -1, 0, 1, 2, 3, 4, 5, 9, 10, 40, 100, 9999, 10000, 1000000, 1000001, 999999999, 1000000000, huge-1, huge)
	answered, valids := 0, 0
	for range 3000 {
		p := rich()
		for _, x := range places(reflect.ValueOf(&p).Elem()) {
			if r.oneIn(200) {
				x.SetInt(int64(r.one(odd)))
			}
		}
		if r.oneIn(2) {
			p.Rounds.Town, p.Bell.Town = copied(p).Town, copied(p).Town
		}
		g := given{x: r.order(r.one(odd)), d: r.deed(), l: r.someDeeds(5)}
		for _, x := range append(places(reflect.ValueOf(&g.d).Elem()), places(reflect.ValueOf(&g.l).Elem())...) {
			if r.oneIn(20) {
				x.SetInt(int64(r.one(odd)))
			}
		}
		if r.oneIn(3) {
			g.x = order(r.one(odd), r.one(odd), r.one(odd), r.one(odd))
		}
		valid := warden.Check(p)
		if valid == api.OK {
			valids++
		}
		for _, c := range calls(g) {
			z := c.run(p)
			if z.e == api.OK && c.name != "Check" {
				answered++
			}
			if valid != api.OK && z.e != valid || z.e != api.OK && !z.isZero() {
				t.Fatal(c.name, p, g, z)
			}
			if z.e == api.OK && (c.name == "Do" || c.name == "Run") && warden.Check(z.p) != api.OK {
				t.Fatal(c.name, p, g, z)
			}
		}
		for _, c := range others(g) {
			if z := c.run(p); z.e != api.OK && !z.isZero() {
				t.Fatal(c.name, g, z)
			}
		}
	}
	if answered < 3000 || valids < 500 || valids > 2500 {
		t.Error("too few of a kind:", answered, valids)
	}
}

// R7: lists and files however long are looked at, and each call ends.
func TestLongLists(t *testing.T) {
	t.Parallel()
	many := 1 << 15
	for i, change := range []func(p *api.Post){
		func(p *api.Post) { p.Town.Places = slices.Repeat(ints(1), many) },
		func(p *api.Post) { p.Rounds.Town.Links = slices.Repeat(p.Town.Links, many) },
		func(p *api.Post) { p.Dawn.Comers = slices.Repeat(p.Dawn.Comers, many) },
		func(p *api.Post) { p.Mix.Acts = slices.Repeat(p.Mix.Acts, many) },
		func(p *api.Post) { p.Tally.Stock = slices.Repeat(ints(1), many) },
		func(p *api.Post) { p.Floors.Paid = slices.Repeat(p.Floors.Paid, many) },
		func(p *api.Post) { p.Supply.Streets = slices.Repeat(p.Supply.Streets, many) },
		func(p *api.Post) { p.Bell.Porters = slices.Repeat(p.Bell.Porters, many) },
		func(p *api.Post) { p.Orders = slices.Repeat(p.Orders, many) },
		func(p *api.Post) {
			for n := range many {
				p.Guards = append(p.Guards, guard(n+1, 1))
			}
		},
	} {
		p := rich(change)
		checkBad(t, i, p)
		// The towns of the rounds and of the bell are in no file.
		p.Rounds.Town, p.Bell.Town = p.Town, p.Town
		if warden.Check(p) != api.OK {
			expect(t, p, given{file: fileOf(p)}, api.ErrFile, "Read", "Carry")
		}
	}
	long := deed(api.VerbBill, slices.Repeat(ints(1), many)...)
	g := given{d: long, l: slices.Repeat(deeds(long), 40), s: lineOf(deed(api.VerbBill, ints(1, 2)...)) + strings.Repeat(" 1", many)}
	expect(t, rich(), g, api.ErrSpeak, "Hear", "Speak", "Touch", "Why", "Do", "Run", "First")
	expect(t, rich(), given{l: make([]api.Deed, many)}, api.ErrMany, "Run", "First")
	expect(t, rich(), given{file: richFile + strings.Repeat("ask 5 0 0\n", many)}, api.ErrMany, "Carry")
	expect(t, rich(), given{file: richFile + strings.Repeat("\n", many)}, api.ErrSpeak, "Carry")
	expect(t, rich(), given{file: strings.Repeat("\n", many)}, api.ErrFile, "Read", "Carry")
	expect(t, rich(), given{file: strings.Repeat("1", many)}, api.ErrFile, "Read", "Carry")
	expect(t, rich(), given{file: "town 9223372036854775807" + strings.Repeat(" 1", many) + richFile[strings.Index(richFile, "\n"):]}, api.ErrFile, "Read", "Carry")
}
