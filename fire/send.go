package fire

import (
	"cmp"
	"iter"
	"slices"

	"aguador/api"
)

// beatOf returns the beat of a task. Who goes straight is in nobody's way, as if it had a beat of its own, of a well that there is not.
func beatOf(x api.Task) api.Beat {
	b := api.Beat{Well: x.Well, Beat: x.Beat}
	if b == (api.Beat{}) {
		b.Beat = x.Porter
	}
	return b
}

// crew returns the porters who can have one of these tasks each, by different beats, of those who have any: as many as can be, of several lists the one in which the first Id that differs is less. A porter who has a beat may have to change it for another one, but keeps having one, so that each one who can join those before it does.
func crew(tasks [][]api.Task) []int {
	taken := map[api.Beat]int{}
	var tried map[api.Beat]bool
	var change func(i int) bool
	change = func(i int) bool {
		for _, x := range tasks[i] {
			b := beatOf(x)
			if tried[b] {
				continue
			}
			tried[b] = true
			other, isTaken := taken[b]
			if !isTaken || change(other) {
				taken[b] = i
				return true
			}
		}
		return false
	}
	var l []int
	for i, mine := range tasks {
		tried = map[api.Beat]bool{}
		if change(i) {
			l = append(l, mine[0].Porter)
		}
	}
	return l
}

// minutes returns the minutes by which a first porter is there, a second one, and so on, if each time as many are as can be.
func minutes(tasks [][]api.Task) []int {
	var all []int
	for _, x := range slices.Concat(tasks...) {
		all = append(all, x.There)
	}
	slices.Sort(all)
	var l []int
	for _, minute := range slices.Compact(all) {
		for range len(crew(by(minute, tasks))) - len(l) {
			l = append(l, minute)
		}
	}
	return l
}

// send returns the best sending in which, porter by porter, the first task is chosen with which the others still can do as well. As beats can be exchanged one by one, the others have a sending that is best for each minute at once.
func send(tasks [][]api.Task) []api.Task {
	best := minutes(tasks)
	taken := map[api.Beat]bool{}
	isOpen := func(x api.Task) bool { return !taken[beatOf(x)] }
	var sent []api.Task
	for i, mine := range tasks {
	trying:
		for _, x := range mine {
			if !isOpen(x) {
				continue trying
			}
			taken[beatOf(x)] = true
			done := append(slices.Clone(sent), x)
			rest := only(tasks[i+1:], isOpen)
			for k, minute := range best {
				if there(done, minute)+len(crew(by(minute, rest))) <= k {
					delete(taken, beatOf(x))
					continue trying
				}
			}
			sent = done
			break trying
		}
	}
	return sent
}

// there returns how many of the tasks are done by a minute.
func there(l []api.Task, minute int) (n int) {
	for _, x := range l {
		if x.There <= minute {
			n++
		}
	}
	return n
}

// cover is porters and beats of which each task is of one or the other.
type cover struct {
	porters []int
	beats   []api.Beat
}

func (x cover) size() int { return len(x.porters) + len(x.beats) }

// covers yields for each choice of porters, who all have tasks, the cover with the beats of all others, if nobody of these goes straight.
func covers(tasks [][]api.Task) iter.Seq[cover] {
	return func(yield func(cover) bool) {
	choosing:
		for chosen := range 1 << len(tasks) {
			var x cover
			for i, mine := range tasks {
				if chosen>>i&1 == 1 {
					x.porters = append(x.porters, mine[0].Porter)
					continue
				}
				if mine[0].Well == 0 {
					continue choosing
				}
				for _, y := range mine {
					x.beats = append(x.beats, beatOf(y))
				}
			}
			slices.SortFunc(x.beats, byWell)
			x.beats = slices.Compact(x.beats)
			if !yield(x) {
				return
			}
		}
	}
}

func byWell(a, b api.Beat) int {
	return cmp.Or(cmp.Compare(a.Well, b.Well), cmp.Compare(a.Beat, b.Beat))
}

// isBefore reports whether a cover is smaller than another one, or as small with fewer porters, or with other ones of which the first Id that differs is less.
func (x cover) isBefore(y cover) bool {
	return cmp.Or(cmp.Compare(x.size(), y.size()), cmp.Compare(len(x.porters), len(y.porters)), slices.Compare(x.porters, y.porters)) < 0
}
