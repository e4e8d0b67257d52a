// Package span is layer 1, sets of sectors' numbers as spans: see shared/doc/01-span.md.
package span

import (
	"iter"

	"aquifer/api"
)

// Right: is it a set?
func Right(l []api.Span) bool {
	from := 0
	for _, s := range l {
		// Len is held against what there is from Start on: their sum might go round.
		if s.Start < from || s.Len < 1 || s.Len > api.MaxSector-s.Start {
			return false
		}
		// The next one may not begin at the end: they would touch.
		from = end(s) + 1
	}
	return true
}

// Of: the set of some numbers, without those that can't be in one.
func Of(nums ...int) []api.Span {
	var in [api.MaxSector]bool
	for _, n := range nums {
		if n >= 0 && n < api.MaxSector {
			in[n] = true
		}
	}
	var out []api.Span
	for n := range in {
		if in[n] {
			out = add(out, n, n+1)
		}
	}
	return out
}

// Has: is a number in it?
func Has(l []api.Span, n int) bool {
	for have := range numbers(l) {
		if have >= n {
			return have == n
		}
	}
	return false
}

// Count: how many are in it.
func Count(l []api.Span) int {
	many := 0
	for _, s := range l {
		many += s.Len
	}
	return many
}

// List: what is in it, rising.
func List(l []api.Span) []int {
	var out []int
	for n := range numbers(l) {
		out = append(out, n)
	}
	return out
}

// Join: what is in either.
func Join(a, b []api.Span) []api.Span {
	return pick(a, b, func(inA, inB bool) bool { return inA || inB })
}

// Cut: what is in a and not in b.
func Cut(a, b []api.Span) []api.Span {
	return pick(a, b, func(inA, inB bool) bool { return inA && !inB })
}

// Both: what is in both.
func Both(a, b []api.Span) []api.Span {
	return pick(a, b, func(inA, inB bool) bool { return inA && inB })
}

// First: the first so many numbers of the first span that has so many.
func First(l []api.Span, many int) (api.Span, bool) {
	if many < 1 {
		return api.Span{}, false
	}
	for _, s := range l {
		if s.Len >= many {
			return api.Span{Start: s.Start, Len: many}, true
		}
	}
	return api.Span{}, false
}

// numbers goes through what is in a set, rising. A list that is no set has
// none: its spans might go on nearly for ever.
func numbers(l []api.Span) iter.Seq[int] {
	return func(yield func(int) bool) {
		if !Right(l) {
			return
		}
		for _, s := range l {
			for i := range s.Len {
				if !yield(s.Start + i) {
					return
				}
			}
		}
	}
}

// pick goes through two sets side by side, stretch by stretch, and answers the
// set of the stretches that want asks for. With a list that is no set there is
// none: its stretches might end ahead of where they begin.
func pick(a, b []api.Span, want func(inA, inB bool) bool) []api.Span {
	if !Right(a) || !Right(b) {
		return nil
	}
	var out []api.Span
	for from := 0; from < api.MaxSector; {
		a, b = behind(a, from), behind(b, from)
		inA, toA := stretch(a, from)
		inB, toB := stretch(b, from)
		to := min(toA, toB)
		if want(inA, inB) {
			out = add(out, from, to)
		}
		from = to
	}
	return out
}

// behind: what is left of a set without a first span that ends ahead of a
// number, or at it. More than one can't: pick stops at every end.
func behind(l []api.Span, from int) []api.Span {
	if len(l) > 0 && end(l[0]) <= from {
		return l[1:]
	}
	return l
}

// stretch: is a number in a set, and where does that change?
func stretch(l []api.Span, from int) (bool, int) {
	switch {
	case len(l) == 0:
		return false, api.MaxSector
	case from < l[0].Start:
		return false, l[0].Start
	}
	return true, end(l[0])
}

// add puts numbers behind a set. Those that touch its last span make it
// longer: a set's spans don't touch.
func add(l []api.Span, from, to int) []api.Span {
	if last := len(l) - 1; last >= 0 && end(l[last]) == from {
		l[last].Len += to - from
		return l
	}
	return append(l, api.Span{Start: from, Len: to - from})
}

// end: the number behind a span.
func end(s api.Span) int { return s.Start + s.Len }
