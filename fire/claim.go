package fire

import (
	"cmp"
	"iter"
	"slices"

	"aguador/api"
)

// areTrue reports whether claims can be true together, of tasks that can be.
func areTrue(tasks [][]api.Task, claims []api.Claim) bool {
	latest := map[int]int{}
	for _, x := range claims {
		if minute, ok := latest[x.Porter]; !ok || x.Minute < minute {
			latest[x.Porter] = x.Minute
		}
	}
	isInTime := func(x api.Task) bool {
		minute, ok := latest[x.Porter]
		return ok && x.There <= minute
	}
	return len(crew(only(tasks, isInTime))) == len(latest)
}

// without returns the claims but for those of some numbers.
func without(claims []api.Claim, numbers []int) []api.Claim {
	isOne := func(x api.Claim) bool { return slices.Contains(numbers, x.Number) }
	return slices.DeleteFunc(slices.Clone(claims), isOne)
}

// struck yields the numbers of claims, few enough, without which the others can be true together.
func (w watch) struck() iter.Seq[[]int] {
	tasks := w.all(w.least)
	return func(yield func([]int) bool) {
		for chosen := range 1 << len(w.Claims) {
			var numbers []int
			for i, x := range w.Claims {
				if chosen>>i&1 == 1 {
					numbers = append(numbers, x.Number)
				}
			}
			if len(numbers) <= api.MaxStruck && areTrue(tasks, without(w.Claims, numbers)) && !yield(numbers) {
				return
			}
		}
	}
}

// wrong returns the numbers of the fewest claims that must be false: false if they are too many.
func (w watch) wrong() ([]int, bool) {
	isBefore := func(a, b []int) bool {
		return cmp.Or(cmp.Compare(len(a), len(b)), slices.Compare(a, b)) < 0
	}
	return first(w.struck(), isBefore)
}

// wages returns what is paid for claims that are not false.
func (w watch) wages(claims []api.Claim, fee, more int) []api.Wage {
	pence := map[int]int{}
	for _, x := range claims {
		pence[x.Porter] = fee
	}
	isBefore := func(a, b api.Claim) bool {
		return cmp.Or(cmp.Compare(a.Minute, b.Minute), cmp.Compare(a.Porter, b.Porter)) < 0
	}
	if x, ok := first(slices.Values(claims), isBefore); ok {
		pence[x.Porter] += more
	}
	var l []api.Wage
	for _, p := range w.Porters {
		if n, ok := pence[p.Id]; ok {
			l = append(l, api.Wage{Porter: p.Id, Pence: n})
		}
	}
	return l
}
