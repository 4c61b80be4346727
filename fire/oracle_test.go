package fire_test

import (
	"cmp"
	"maps"
	"math/bits"
	"slices"

	"aguador/api"
)

// hike is a walk that comes to no place twice.
type hike struct {
	links, places []int
	steps, paces  int
}

func (a hike) last() int { return a.places[len(a.places)-1] }

// with is the hike with a link more, which begins where it ends.
func (a hike) with(x api.Link) hike {
	b := hike{append(slices.Clone(a.links), x.Id), slices.Clone(a.places), a.steps, a.paces + x.Paces}
	if a.last() == x.From {
		b.steps += x.Steps
		b.places = append(b.places, x.To)
	} else {
		b.places = append(b.places, x.From)
	}
	return b
}

// hikes lists all walks from a place to another one that come to no place twice: the way is one of them.
func hikes(t api.Town, from, to int) (all []hike) {
	var follow func(a hike)
	follow = func(a hike) {
		if a.last() == to {
			all = append(all, a)
			return
		}
		for _, x := range t.Links {
			if x.From != a.last() && x.To != a.last() {
				continue
			}
			if b := a.with(x); !slices.Contains(a.places, b.last()) {
				follow(b)
			}
		}
	}
	follow(hike{places: ints(from)})
	return all
}

func comparedHikes(a, b hike) int {
	return cmp.Or(cmp.Compare(a.steps, b.steps), cmp.Compare(a.paces, b.paces), cmp.Compare(len(a.links), len(b.links)), slices.Compare(a.links, b.links))
}

// world is a bell with how many minutes all ways take.
type world struct {
	api.Bell
	ways map[[2]int]api.Span
}

func worldOf(b api.Bell) world {
	w := world{b, map[[2]int]api.Span{}}
	for _, from := range b.Town.Places {
		for _, to := range b.Town.Places {
			l := hikes(b.Town, from, to)
			if len(l) == 0 {
				continue
			}
			x := slices.MinFunc(l, comparedHikes)
			seconds := span(x.paces*b.Gait.Pace.Lo+x.steps*b.Gait.Step.Lo, x.paces*b.Gait.Pace.Hi+x.steps*b.Gait.Step.Hi)
			var minutes api.Span
			for 60*(minutes.Lo+1) <= seconds.Lo {
				minutes.Lo++
			}
			for 60*minutes.Hi < seconds.Hi {
				minutes.Hi++
			}
			w.ways[[2]int{from, to}] = minutes
		}
	}
	return w
}

// lo and hi are the ends of a span: ways take the least time, or the greatest one.
func lo(x api.Span) int { return x.Lo }

func hi(x api.Span) int { return x.Hi }

// tasksBy lists all tasks by which a porter is there by a minute, beat after beat.
func (w world) tasksBy(p api.Porter, end func(x api.Span) int, minute int) (l []api.Task) {
	if p.Full {
		x, ok := w.ways[[2]int{p.At, w.Place}]
		if ok && end(x) <= minute {
			l = append(l, task(p.Id, 0, 0, end(x)))
		}
		return l
	}
	for _, y := range w.Wells {
		to, isTo := w.ways[[2]int{p.At, y.Place}]
		from, isFrom := w.ways[[2]int{y.Place, w.Place}]
		for k := 1; k*y.Every <= minute && isTo && isFrom; k++ {
			if end(to) <= (k-1)*y.Every && k*y.Every+end(from) <= minute {
				l = append(l, task(p.Id, y.Id, k, k*y.Every+end(from)))
			}
		}
	}
	return l
}

// lists has the tasks of each porter, also of those who have none.
func (w world) lists(end func(x api.Span) int, minute int) (all [][]api.Task) {
	for _, p := range w.Porters {
		all = append(all, w.tasksBy(p, end, minute))
	}
	return all
}

// comers counts the porters who ever are there.
func (w world) comers() (n int) {
	for _, p := range w.Porters {
		if _, ok := w.soonest(p, lo); ok {
			n++
		}
	}
	return n
}

// soonest is the first minute by which a porter is there, minute by minute.
func (w world) soonest(p api.Porter, end func(x api.Span) int) (int, bool) {
	for minute := range w.late() + 1 {
		if len(w.tasksBy(p, end, minute)) > 0 {
			return minute, true
		}
	}
	return 0, false
}

// late is a minute by which all are there who ever are: by then each one can go anywhere, wait until all others have a skin, and go anywhere again.
func (w world) late() int {
	longest, every := 0, 0
	for _, x := range w.ways {
		longest = max(longest, x.Hi)
	}
	for _, x := range w.Wells {
		every = max(every, x.Every)
	}
	return 2*longest + (len(w.Porters)+1)*every
}

// clash reports whether two tasks are of one beat.
func clash(a, b api.Task) bool { return a.Well != 0 && a.Well == b.Well && a.Beat == b.Beat }

// sendings lists all: each porter has one of its tasks, or none.
func sendings(lists [][]api.Task) [][]api.Task {
	all := [][]api.Task{nil}
	for _, l := range lists {
		var more [][]api.Task
		for _, sent := range all {
			more = append(more, sent)
			for _, x := range l {
				if !slices.ContainsFunc(sent, func(y api.Task) bool { return clash(x, y) }) {
					more = append(more, append(slices.Clone(sent), x))
				}
			}
		}
		all = more
	}
	return all
}

// howMany is the number of the sendings, and more, as if none of the tasks were of one beat.
func howMany(lists [][]api.Task) int {
	n := 1
	for _, l := range lists {
		n *= len(l) + 1
	}
	return n
}

// thereBy counts the tasks that are done by a minute.
func thereBy(sent []api.Task, minute int) (n int) {
	for _, x := range sent {
		if x.There <= minute {
			n++
		}
	}
	return n
}

func portersOf(sent []api.Task) (l []int) {
	for _, x := range sent {
		l = append(l, x.Porter)
	}
	return l
}

// comparedTasks is the order of sendings of the same porters: Well, otherwise Beat.
func comparedTasks(a, b api.Task) int {
	return cmp.Or(cmp.Compare(a.Well, b.Well), cmp.Compare(a.Beat, b.Beat))
}

// together counts how many have tasks of different beats, without trying any: some porters have no more tasks than there are beats for them, and nothing else stands against it (Hall's theorem).
func together(lists [][]api.Task) int {
	sharers := map[api.Beat]int{}
	for i, l := range lists {
		for _, x := range l {
			b := api.Beat{Well: x.Well, Beat: x.Beat}
			if x.Well == 0 {
				b.Beat = x.Porter
			}
			sharers[b] |= 1 << i
		}
	}
	least := len(lists)
	for some := range 1 << len(lists) {
		n := len(lists) - bits.OnesCount(uint(some))
		for _, who := range sharers {
			if who&some != 0 {
				n++
			}
		}
		least = min(least, n)
	}
	return least
}

// subsets lists all choices of numbers, those with fewer first, in their order.
func subsets(numbers []int) (all [][]int) {
	for some := range 1 << len(numbers) {
		var l []int
		for i, n := range numbers {
			if some>>i&1 == 1 {
				l = append(l, n)
			}
		}
		all = append(all, l)
	}
	slices.SortFunc(all, func(a, b []int) int { return cmp.Or(cmp.Compare(len(a), len(b)), slices.Compare(a, b)) })
	return all
}

// crewOf is the first of the longest lists of porters who can have tasks of different beats.
func crewOf(lists [][]api.Task) (crew []int) {
	byPorter := map[int][]api.Task{}
	for _, l := range lists {
		for _, x := range l {
			byPorter[x.Porter] = append(byPorter[x.Porter], x)
		}
	}
	for _, some := range subsets(slices.Sorted(maps.Keys(byPorter))) {
		var theirs [][]api.Task
		for _, id := range some {
			theirs = append(theirs, byPorter[id])
		}
		if len(some) > len(crew) && together(theirs) == len(some) {
			crew = some
		}
	}
	return crew
}

// steps are the minutes by which one more porter surely is there.
func (w world) steps() (l []int) {
	comers := w.comers()
	for minute := 0; len(l) < comers; minute++ {
		for n := together(w.lists(hi, minute)); len(l) < n; {
			l = append(l, minute)
		}
	}
	return l
}

// sent is the first sending, porter by porter, that is there at all of these minutes.
func (w world) sent(steps []int) []api.Task {
	var lists [][]api.Task
	for _, l := range w.lists(hi, slices.Max(append(ints(0), steps...))) {
		if len(l) > 0 {
			lists = append(lists, l)
		}
	}
	var follow func(done []api.Task, steps []int) ([]api.Task, bool)
	follow = func(done []api.Task, steps []int) ([]api.Task, bool) {
		if len(done) == len(lists) {
			return done, len(steps) == 0
		}
		for _, x := range lists[len(done)] {
			at := slices.Index(steps, x.There)
			if at < 0 || slices.ContainsFunc(done, func(y api.Task) bool { return clash(x, y) }) {
				continue
			}
			if l, ok := follow(append(slices.Clone(done), x), slices.Delete(slices.Clone(steps), at, at+1)); ok {
				return l, true
			}
		}
		return nil, false
	}
	l, _ := follow(nil, steps)
	return l
}

// covering is the smallest cover, of all choices of porters with all beats of the others.
func covering(lists [][]api.Task) (porters []int, beats []api.Beat) {
	size := len(lists) + 1
	var all []int
	for _, l := range lists {
		if len(l) > 0 {
			all = append(all, l[0].Porter)
		}
	}
	for _, some := range subsets(all) {
		need := map[api.Beat]bool{}
		straight := false
		for _, x := range slices.Concat(lists...) {
			if !slices.Contains(some, x.Porter) {
				need[api.Beat{Well: x.Well, Beat: x.Beat}] = true
				straight = straight || x.Well == 0
			}
		}
		if !straight && len(some)+len(need) < size {
			size = len(some) + len(need)
			porters, beats = some, slices.SortedFunc(maps.Keys(need), comparedBeats)
		}
	}
	return porters, beats
}

func comparedBeats(a, b api.Beat) int {
	return cmp.Or(cmp.Compare(a.Well, b.Well), cmp.Compare(a.Beat, b.Beat))
}

// listsOf has the tasks that make claims true, for each porter who has any claim.
func (w world) listsOf(l []api.Claim) (lists [][]api.Task) {
	for _, p := range w.Porters {
		minutes := ints()
		for _, x := range l {
			if x.Porter == p.Id {
				minutes = append(minutes, x.Minute)
			}
		}
		if len(minutes) > 0 {
			// By the late minute all can be there who ever can, with time for all.
			lists = append(lists, w.tasksBy(p, lo, min(slices.Min(minutes), w.late())))
		}
	}
	return lists
}

// wrongs lists all choices of claims that can be left out, the shortest first, in their order.
func (w world) wrongs() (all [][]int) {
	var numbers []int
	for _, x := range w.Claims {
		numbers = append(numbers, x.Number)
	}
	for _, some := range subsets(numbers) {
		lists := w.listsOf(slices.DeleteFunc(slices.Clone(w.Claims), func(x api.Claim) bool { return slices.Contains(some, x.Number) }))
		if together(lists) == len(lists) {
			all = append(all, some)
		}
	}
	return all
}

// dice is a row of numbers that looks thrown, the same in each run.
type dice struct{ state uint64 }

// upTo returns a number from lo to hi.
func (d *dice) upTo(lo, hi int) int {
	d.state = d.state*6364136223846793005 + 1442695040888963407
	return lo + int(d.state>>33)%(hi-lo+1)
}

func (d *dice) one(l []int) int { return l[d.upTo(0, len(l)-1)] }

// span returns one within two numbers, not wider than a third one.
func (d *dice) span(lo, hi, wide int) api.Span {
	a := d.upTo(lo, hi)
	return span(a, min(hi, a+d.upTo(0, wide)))
}

// ids returns so many Ids, in increasing order.
func (d *dice) ids(many int) []int {
	l := map[int]bool{}
	for len(l) < many {
		l[d.one(ints(1, 2, 3, 4, 5, 6, 7, 70, 800, 9998, 9999))] = true
	}
	return slices.Sorted(maps.Keys(l))
}

// town has so many places and links, no longer and no higher than is said.
func (d *dice) town(places, links, paces, steps int) api.Town {
	t := api.Town{Places: d.ids(places)}
	for i := range links {
		from, to := d.one(t.Places), d.one(t.Places)
		if from != to {
			t.Links = append(t.Links, link(i+1, from, to, d.one(ints(0, 0, d.upTo(0, steps))), d.upTo(1, paces)))
		}
	}
	return t
}

// bell has so many wells, porters and claims in a town.
func (d *dice) bell(t api.Town, wells, porters, claims, every int) api.Bell {
	b := api.Bell{Town: t, Gait: api.Gait{Pace: d.span(5, 20, 15), Step: d.span(0, 20, 10)}, Place: d.one(t.Places)}
	for _, id := range d.ids(wells) {
		b.Wells = append(b.Wells, well(id, d.one(t.Places), d.upTo(1, every)))
	}
	for _, id := range d.ids(porters) {
		b.Porters = append(b.Porters, api.Porter{Id: id, At: d.one(t.Places), Full: d.upTo(0, 3) == 0})
	}
	if porters > 0 {
		d.claims(&b, claims)
	}
	return b
}

// claims gives a bell so many claims, of minutes at which it matters.
func (d *dice) claims(b *api.Bell, many int) {
	w := worldOf(*b)
	for _, number := range d.ids(many) {
		p := b.Porters[d.upTo(0, len(b.Porters)-1)]
		minute, _ := w.soonest(p, lo)
		minute = max(0, minute+d.one(ints(-1, 0, 0, 0, 1, 2, 3, 8)))
		b.Claims = append(b.Claims, claim(number, p.Id, d.one(ints(minute, minute, minute, minute, minute, minute, minute, 1000000, huge))))
	}
}

// small is a bell of which all sendings can be listed.
func (d *dice) small() api.Bell {
	b := d.bell(d.town(d.upTo(1, 4), d.upTo(0, 6), 9, 6), d.upTo(0, 2), d.upTo(0, 4), d.upTo(0, 5), 5)
	w := worldOf(b)
	if howMany(w.lists(hi, w.late())) > 30000 {
		return d.small()
	}
	return b
}

// great is a bell of any size.
func (d *dice) great() api.Bell {
	paces := d.one(ints(9, 50, 300))
	return d.bell(d.town(d.upTo(2, 9), d.upTo(4, 12), paces, paces/3), d.upTo(1, 3), d.upTo(3, 6), d.upTo(2, 8), 15)
}
