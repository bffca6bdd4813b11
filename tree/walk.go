package tree

import (
	"slices"

	"attest/field"
	"attest/sponge"
)

const (
	width = 4 // elements of a digest

	ofRow  = 0 // stands ahead of a row
	ofPair = 1 // stands ahead of two roots
)

// digest is a root; what stands in it is elements, so that two that are the same are equal.
type digest [width]int

// digestOf gives what a list of as many numbers is as a digest.
func digestOf(f *field.Field, l []int) (out digest) {
	for i, n := range l {
		out[i] = f.Of(n)
	}
	return out
}

// group is rows that stand beside one another.
type group struct{ from, end int }

// lacks tells whether a place is none of the group's.
func (g group) lacks(at int) bool { return at < g.from || at >= g.end }

// parts gives the two groups that one of more rows than one is made of.
func (g group) parts() (left, right group) {
	m := 1
	for 2*m < g.end-g.from {
		m *= 2
	}
	return group{g.from, g.from + m}, group{g.from + m, g.end}
}

// hidden gives, from the left, the groups that Nodes stand for, where these places of a group, ascending, are shown.
func hidden(g group, places []int) []group {
	if len(places) == 0 {
		return []group{g}
	}
	if len(places) == g.end-g.from {
		return nil
	}
	left, right := g.parts()
	k, _ := slices.BinarySearch(places, right.from)
	return append(hidden(left, places[:k]), hidden(right, places[k:])...)
}

// walk goes through a tree.
type walk struct {
	s     *sponge.Sponge
	found map[group]digest // the roots that it has come by
}

func newWalk(s *sponge.Sponge) *walk { return &walk{s, map[group]digest{}} }

// seeRow finds the root of the row at a place.
func (w *walk) seeRow(at int, row []int) { w.found[group{at, at + 1}] = w.hash(ofRow, row) }

// root gives the root of a group each of whose rows was seen, or stands in a group whose root was found.
func (w *walk) root(g group) digest {
	if d, ok := w.found[g]; ok {
		return d
	}
	left, right := g.parts()
	a, b := w.root(left), w.root(right)
	d := w.hash(ofPair, a[:], b[:])
	w.found[g] = d
	return d
}

// pairList gives what Hash makes the root of two groups of that stand beside one another, and whose roots were found.
func (w *walk) pairList(left, right group) []int {
	a, b := w.found[left], w.found[right]
	return joined(ofPair, a[:], b[:])
}

// hash gives the digest of a mark and, behind it, the lists.
func (w *walk) hash(mark int, lists ...[]int) digest {
	return digestOf(w.s.Field(), w.s.Hash(joined(mark, lists...)))
}

// joined gives a mark and, behind it, the lists.
func joined(mark int, lists ...[]int) []int {
	out := []int{mark}
	for _, l := range lists {
		out = append(out, l...)
	}
	return out
}
