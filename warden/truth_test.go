package warden_test

import (
	"fmt"
	"maps"
	"slices"
	"strings"
	"testing"

	"aguador/api"
	"aguador/warden"
)

// posts calls a test with so many posts.
func posts(t *testing.T, many int, state uint64, some func(p api.Post, r *dice)) {
	t.Helper()
	r := &dice{state: state}
	for range many {
		p := r.post()
		if warden.Check(p) != api.OK {
			t.Fatal("not valid", p)
		}
		some(p, r)
		if t.Failed() {
			t.Fatal(p)
		}
	}
}

// P12.5, P12.7, P12.10: each deed does what its layer does, and nothing else, or is denied by what its layer says, or the warden.
func TestDeedsDoWhatLayersDo(t *testing.T) {
	t.Parallel()
	did, denied := map[int]int{}, map[int]int{}
	by := map[[2]int]int{}
	posts(t, 3500, 1, func(p api.Post, r *dice) {
		for range 4 {
			d := r.deed()
			want, e := done(p, d)
			if e == api.OK {
				did[d.Verb]++
			} else {
				denied[d.Verb]++
				by[[2]int{d.Verb, int(e)}]++
			}
			if why, f := warden.Why(p, d); why != e || f != api.OK {
				t.Error("Why", lineOf(d), why, f, e)
			}
			q, s, f := warden.Do(p, d)
			if !same(q, want) || s != answered(p, want, d, e) || f != api.OK {
				t.Error("Do", lineOf(d), q, s, f, answered(p, want, d, e))
			}
			if warden.Check(q) != api.OK {
				t.Error("not valid", lineOf(d), q)
			}
			if same(p, q) != (e != api.OK || d.Verb == api.VerbAsk || d.Verb == api.VerbNeed && same(p, want)) {
				t.Error("changed", lineOf(d), q)
			}
			p = q
		}
	})
	for verb := api.VerbRead; verb <= api.VerbAsk; verb++ {
		if did[verb] < 50 || denied[verb] < 10 {
			t.Error("too few of a kind:", verb, did[verb], denied[verb])
		}
	}
	for _, x := range [][2]int{{1, 6}, {1, 12}, {2, 22}, {3, 2}, {4, 41}, {4, 122}, {5, 41}, {5, 122}, {6, 41}, {7, 41}, {8, 42}, {8, 122}, {9, 6}, {9, 52}, {9, 60}, {10, 9}, {10, 64}, {11, 6}, {12, 9}, {12, 72}, {13, 81}, {14, 82}, {14, 83}, {15, 6}, {15, 92}, {16, 101}, {17, 102}, {18, 6}, {19, 34}, {20, 2}, {20, 6}, {20, 8}, {20, 122}, {20, 123}, {21, 124}, {22, 6}, {23, 124}} {
		if by[x] == 0 {
			t.Error("none of a kind:", x)
		}
	}
}

// P12.3, P12.15: what holds is what the layers say; what is asked is answered by it.
func TestHoldsInTruths(t *testing.T) {
	t.Parallel()
	many := map[int][2]int{}
	posts(t, 1500, 2, func(p api.Post, r *dice) {
		for range 6 {
			x := r.order(r.upTo(-5, 5))
			value, holds := holding(p, x)
			n := many[x.Kind]
			want := "not"
			if holds {
				n[1]++
				want = fmt.Sprint("so ", value)
			} else {
				n[0]++
				value = 0
			}
			many[x.Kind] = n
			if is, n, e := warden.Holds(p, x); is != holds || n != value || e != api.OK {
				t.Error("Holds", x, is, n, e, holds, value)
			}
			q, s, e := warden.Do(p, deed(api.VerbAsk, x.Kind, x.A, x.B))
			if s != want || !same(p, q) || e != api.OK {
				t.Error("ask", x, s, e, want)
			}
		}
	})
	for kind := api.OrderFails; kind <= api.OrderFire; kind++ {
		if n := many[kind]; n[0] < 50 || n[1] < 50 {
			t.Error("too few of a kind:", kind, n)
		}
	}
}

// numbersIn is the numbers in the answers behind a word.
func numbersIn(answer, word string) (l [][2]int) {
	words := strings.Fields(answer)
	for i, s := range words {
		var x [2]int
		if s == word {
			fmt.Sscan(strings.Join(words[i+1:min(i+3, len(words))], " "), &x[0], &x[1])
			l = append(l, x)
		}
	}
	return l
}

// P12.9: what was warned, and not calmed since, is just what holds, with the value that it had when it was warned.
func TestWarnedIsWhatHolds(t *testing.T) {
	t.Parallel()
	warned, calmed, together := 0, 0, 0
	posts(t, 2000, 3, func(p api.Post, r *dice) {
		known := map[int]bool{}
		for n := range held(p) {
			known[n] = true
		}
		for range 8 {
			d := r.deed()
			next, s, e := warden.Do(p, d)
			if e != api.OK {
				t.Fatal(lineOf(d), e)
			}
			p = next
			now := held(p)
			news := 0
			for _, x := range numbersIn(s, "warn") {
				value, is := now[x[0]]
				if known[x[0]] || !is || value != x[1] {
					t.Error("warned", lineOf(d), s)
				}
				known[x[0]] = true
				warned++
				news++
			}
			for _, x := range numbersIn(s, "calm") {
				if _, is := now[x[0]]; is || !known[x[0]] {
					t.Error("calmed", lineOf(d), s)
				}
				delete(known, x[0])
				calmed++
				news++
			}
			if news > 1 {
				together++
			}
			want := slices.Sorted(maps.Keys(known))
			if l, e := warden.Warns(p); !slices.Equal(l, want) || len(l) != len(now) || e != api.OK {
				t.Error("Warns", lineOf(d), s, l, e, want)
			}
		}
	})
	if warned < 150 || calmed < 150 || together < 5 {
		t.Error("too few of a kind:", warned, calmed, together)
	}
}

// water is how many drops of each fountain are in each vessel, by what comes before its Id.
type water [5][5]int

// goes yields what can become of water if so many drops go from one vessel to another one, or nowhere (0).
func (w water) goes(from, to, drops, fountain int, yield func(w water)) {
	if fountain == 5 {
		if drops == 0 {
			yield(w)
		}
		return
	}
	for n := 0; n <= min(drops, w[from][fountain]); n++ {
		x := w
		x[from][fountain] -= n
		if to > 0 {
			x[to][fountain] += n
		}
		x.goes(from, to, drops-n, fountain+1, yield)
	}
}

// waters is all that can be in vessels with small Ids after the acts, whichever drops went.
func waters(m api.Mix) map[water]bool {
	now := map[water]bool{{}: true}
	for _, x := range m.Acts {
		next := map[water]bool{}
		for w := range now {
			switch x.Kind {
			case api.ActFill:
				w[x.To][x.From] += x.Drops
				next[w] = true
			case api.ActRinse:
				w[x.From] = [5]int{}
				next[w] = true
			default:
				w.goes(x.From, x.To, x.Drops, 1, func(w water) { next[w] = true })
			}
		}
		now = next
	}
	return now
}

// only reports whether a vessel holds water of a fountain alone, whichever drops went.
func only(m api.Mix, x api.Guard) bool {
	for w := range waters(m) {
		for fountain, drops := range w[x.Vessel] {
			if fountain != x.Fountain && drops > 0 {
				return false
			}
		}
	}
	return true
}

// P12.8, N4: drop by drop, no guarded vessel ever gets what it may not, and nothing is denied that could not bring it there; tastes, of which all are true, take no water out of it.
func TestGuardedVessels(t *testing.T) {
	t.Parallel()
	denied, guarded, let := 0, 0, 0
	posts(t, 2500, 4, func(p api.Post, r *dice) {
		p.Mix.Tastes, p.Guards = nil, nil
		for range 8 {
			verb := r.one(ints(api.VerbFill, api.VerbPour, api.VerbPour, api.VerbLose, api.VerbRinse, api.VerbGuard, api.VerbGuard))
			d := deed(verb, r.args(verb)...)
			next, s, e := warden.Do(p, d)
			if e != api.OK {
				t.Fatal(lineOf(d), e)
			}
			if s == "no 122" {
				denied++
				without := copied(p)
				without.Guards = nil
				bad := append(p.Guards, guard(d.Args[0], d.Args[1]))
				if verb != api.VerbGuard {
					without, _, _ = warden.Do(without, d)
					bad = p.Guards
				}
				if !slices.ContainsFunc(bad, func(x api.Guard) bool { return !only(without.Mix, x) }) {
					t.Error("denied", lineOf(d))
				}
			} else if strings.HasPrefix(s, "ok") {
				let++
			}
			for _, x := range next.Guards {
				guarded++
				if !only(next.Mix, x) {
					t.Error("mixed", lineOf(d), x, next.Mix)
				}
			}
			p = next
		}
	})
	if denied < 300 || guarded < 3000 || let < 3000 {
		t.Error("too few of a kind:", denied, guarded, let)
	}
}

// P12.8: with tastes, too, each guarded vessel is safe after any deeds, so that the post is valid.
func TestGuardedVesselsWithTastes(t *testing.T) {
	t.Parallel()
	denied := 0
	posts(t, 1500, 5, func(p api.Post, r *dice) {
		for range 6 {
			verb := r.one(ints(api.VerbFill, api.VerbPour, api.VerbLose, api.VerbTaste, api.VerbTaste, api.VerbGuard))
			d := deed(verb, r.args(verb)...)
			next, s, e := warden.Do(p, d)
			if e != api.OK || warden.Check(next) != api.OK || !areSafe(next) {
				t.Error(lineOf(d), s, e, next)
			}
			if s == "no 122" && verb == api.VerbTaste {
				denied++
			}
			p = next
		}
	})
	if denied < 5 {
		t.Error("too few of a kind:", denied)
	}
}

// layersOf is the layer of each row of a file.
func layersOf() []int { return ints(3, 2, 4, 6, 7, 7, 8, 9, 10, 12, 12) }

// P12.4, P12.7: a deed changes no part of a post but those that it touches.
func TestTouchedParts(t *testing.T) {
	t.Parallel()
	seen := map[[2]int]bool{}
	posts(t, 1500, 6, func(p api.Post, r *dice) {
		for range 4 {
			d := r.deed()
			l, e := warden.Touch(d)
			next, _, f := warden.Do(p, d)
			if e != api.OK || f != api.OK {
				t.Fatal(lineOf(d), e, f)
			}
			old, now := strings.Split(fileOf(p), "\n"), strings.Split(fileOf(next), "\n")
			for i, layer := range layersOf() {
				if old[i] == now[i] {
					continue
				}
				seen[[2]int{d.Verb, layer}] = true
				if !slices.Contains(l, layer) {
					t.Error("changed", lineOf(d), now[i])
				}
			}
			p = next
		}
	})
	if len(seen) != 22 {
		t.Error("too few of a kind:", len(seen), seen)
	}
}

// apart reports whether two deeds touch nothing together.
func apart(t *testing.T, a, b api.Deed) bool {
	l, e := warden.Touch(a)
	k, f := warden.Touch(b)
	if e != api.OK || f != api.OK {
		t.Error("Touch", a, b, e, f)
	}
	return !slices.ContainsFunc(l, func(n int) bool { return slices.Contains(k, n) })
}

// P12.11: deeds that touch nothing together may be done in either order: the post is the same, and the same are denied.
func TestEitherOrder(t *testing.T) {
	t.Parallel()
	denied, let, pairs := 0, 0, map[[2]int]bool{}
	posts(t, 2000, 7, func(p api.Post, r *dice) {
		for range 5 {
			a, b := r.deed(), r.deed()
			if !apart(t, a, b) {
				continue
			}
			pairs[[2]int{min(a.Verb, b.Verb), max(a.Verb, b.Verb)}] = true
			x, said, e := warden.Run(p, deeds(a, b))
			y, other, f := warden.Run(p, deeds(b, a))
			if !same(x, y) || e != api.OK || f != api.OK {
				t.Error(lineOf(a), lineOf(b), x, y)
			}
			for i := range 2 {
				one, same := said[i], other[1-i]
				no := strings.HasPrefix(one, "no ")
				if no != strings.HasPrefix(same, "no ") || no && one != same {
					t.Error(lineOf(a), lineOf(b), said, other)
				}
				if no {
					denied++
				} else {
					let++
				}
			}
		}
	})
	if denied < 2000 || let < 2000 || len(pairs) < 200 {
		t.Error("too few of a kind:", denied, let, len(pairs))
	}
}

// P12.5, P12.12: several deeds are done one after the other; they are some of them, and then the others.
func TestSeveralDeeds(t *testing.T) {
	t.Parallel()
	firsts := map[bool]int{}
	posts(t, 1500, 8, func(p api.Post, r *dice) {
		l := r.someDeeds(9)
		if r.oneIn(2) {
			// What can be done, and then perhaps what cannot.
			l = slices.DeleteFunc(l, func(d api.Deed) bool { _, e := done(p, d); return e != api.OK && r.upTo(0, 3) > 0 })
		}
		now, first := p, len(l)
		var want []string
		for i, d := range l {
			next, e := done(now, d)
			want = append(want, answered(now, next, d, e))
			if e != api.OK && first == len(l) {
				first = i
			}
			now = next
		}
		q, said, e := warden.Run(p, l)
		if !same(q, now) || !slices.Equal(said, want) || e != api.OK {
			t.Error("Run", l, q, said, e, want)
		}
		if n, e := warden.First(p, l); n != first || e != api.OK {
			t.Error("First", l, n, e, first)
		}
		firsts[first == len(l)]++
		at := r.upTo(0, len(l))
		half, a, e := warden.Run(p, l[:at])
		whole, b, f := warden.Run(half, l[at:])
		if !same(whole, q) || !slices.Equal(append(a, b...), said) || e != api.OK || f != api.OK {
			t.Error("in two", l, at, whole, a, b)
		}
	})
	if firsts[true] < 200 || firsts[false] < 500 {
		t.Error("too few of a kind:", firsts)
	}
}

// P12.6, P12.13, N11: a file is read as it was written; a summer is carried to what comes of its lines, one by one.
func TestSummers(t *testing.T) {
	t.Parallel()
	long := 0
	posts(t, 800, 9, func(p api.Post, r *dice) {
		s, e := warden.Write(p)
		if s != fileOf(p) || e != api.OK {
			t.Error("Write", s, e, fileOf(p))
		}
		if q, e := warden.Read(s); !same(q, p) || e != api.OK {
			t.Error("Read", s, q, e)
		}
		l := r.someDeeds(r.one(ints(0, 3, 9, 40)))
		long = max(long, len(l))
		for _, d := range l {
			s += lineOf(d) + "\n"
		}
		want, file, _ := carried(s)
		answers, after, e := warden.Carry(s)
		if answers != want || after != file || e != api.OK {
			t.Error("Carry", s, answers, after, e, want, file)
		}
		// Carried on from the file after it, nothing more is said.
		if answers, again, e := warden.Carry(after); answers != "" || again != after || e != api.OK {
			t.Error("carried on", after, answers, again, e)
		}
		q, said, e := warden.Run(p, l)
		if w, f := warden.Write(q); w != after || strings.Join(append(said, ""), "\n") != answers || e != api.OK || f != api.OK {
			t.Error("Run", s, said, w, e, f)
		}
	})
	if long < 35 {
		t.Error("none is long:", long)
	}
}

// edited is a text with a byte or more changed, taken out, doubled, or added.
func (r *dice) edited(s string, bytes string) string {
	at := r.upTo(0, max(0, len(s)-1))
	one := string(bytes[r.upTo(0, len(bytes)-1)])
	behind := min(at+r.one(ints(0, 0, 1, 1, 2)), len(s))
	switch r.upTo(0, 3) {
	case 0:
		return s[:at] + s[behind:]
	case 1:
		return s[:behind] + s[at:]
	}
	return s[:at] + one + s[behind:]
}

// P12.2, P12.14: a line tells a deed just if the patterns do, and this one; each deed is told by one line alone.
func TestLinesOfAllKinds(t *testing.T) {
	t.Parallel()
	r := &dice{state: 10}
	good, bad := 0, 0
	for range 60000 {
		d := r.deed()
		s := lineOf(d)
		for range r.upTo(0, 2) {
			s = r.edited(s, "0019 \n\tadko-+.x\xff\xd9\xa3")
		}
		want, is := deedOf(s)
		d, e := warden.Hear(s)
		if is != (e == api.OK) || !is && e != api.ErrSpeak || fmt.Sprint(d) != fmt.Sprint(want) {
			t.Fatalf("Hear %q %v %v", s, d, e)
		}
		if !is {
			bad++
			continue
		}
		good++
		if again, e := warden.Speak(d); again != s || e != api.OK {
			t.Fatalf("Speak %q %q %v", s, again, e)
		}
	}
	if good < 20000 || bad < 10000 {
		t.Error("too few of a kind:", good, bad)
	}
}

// P12.6: a file is that of a valid post, or none; with a byte changed, missing, or added, too.
func TestFilesOfAllKinds(t *testing.T) {
	t.Parallel()
	good, bad := 0, 0
	posts(t, 250, 11, func(p api.Post, r *dice) {
		if r.oneIn(4) {
			p = rich()
		}
		for range 40 {
			s := r.edited(fileOf(p), "0123456789 \n-t")
			want, is := postOf(s)
			if is = is && warden.Check(want) == api.OK; !is {
				want = api.Post{}
				bad++
			} else {
				good++
			}
			q, e := warden.Read(s)
			if is != (e == api.OK) || !is && e != api.ErrFile || !same(q, want) {
				t.Errorf("Read %q %v %v", s, q, e)
			}
			answers, after, f := warden.Carry(s)
			saidThen, fileThen, want2 := carried(s)
			if answers != saidThen || after != fileThen || f != want2 {
				t.Errorf("Carry %q %q %q %v %v", s, answers, after, f, want2)
			}
		}
	})
	if good < 1000 || bad < 3000 {
		t.Error("too few of a kind:", good, bad)
	}
}

// P12.6: the lines of a summer are those of valid deeds, or not.
func TestLinesOfSummers(t *testing.T) {
	t.Parallel()
	many := map[api.Errno]int{}
	posts(t, 600, 12, func(p api.Post, r *dice) {
		s := fileOf(p)
		for range r.one(ints(0, 1, 2, 3, 38, 39, 40, 41, 42)) {
			s += lineOf(r.deed()) + "\n"
		}
		if at := len(fileOf(p)); r.oneIn(2) {
			s = s[:at] + r.edited(s[at:], "01 \nasx")
		}
		answers, after, e := warden.Carry(s)
		saidThen, fileThen, want := carried(s)
		if answers != saidThen || after != fileThen || e != want {
			t.Errorf("Carry %q %q %q %v %v", s, answers, after, e, want)
		}
		many[e]++
	})
	if many[api.OK] < 100 || many[api.ErrSpeak] < 100 || many[api.ErrMany] < 30 || len(many) != 3 {
		t.Error("too few of a kind:", many)
	}
}
