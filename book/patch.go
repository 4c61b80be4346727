package book

import (
	"strings"

	"aguador/api"
)

// first returns the first thing by an order; of several, the one that stands first.
func first[T any](l []T, before func(a, b T) bool) T {
	best := l[0]
	for _, x := range l {
		if before(x, best) {
			best = x
		}
	}
	return best
}

func isShorter(a, b string) bool { return len(a) < len(b) }

// common returns how many bytes both files have in common at the beginning, and how many of those behind them at the end.
func common(a, b string) [2]int {
	var many [2]int
	shorter := len(first([]string{a, b}, isShorter))
ends:
	for end := range many {
		for i := range shorter - many[0] {
			x, y := i, i
			if end == 1 {
				x, y = len(a)-1-i, len(b)-1-i
			}
			if a[x] != b[y] {
				continue ends
			}
			many[end]++
		}
	}
	return many
}

// patch returns the one by which a file becomes another one.
func patch(a, b string) api.Patch {
	many := common(a, b)
	at := many[0]
	return api.Patch{At: at, Cut: len(a) - many[1] - at, Add: strings.Clone(b[at : len(b)-many[1]])}
}

// fitted returns a patch with what is nearest to its At and its Cut in a file of this length.
func fitted(p api.Patch, length int) api.Patch {
	p.At = max(0, min(p.At, length))
	p.Cut = max(0, min(p.Cut, length-p.At))
	return p
}
