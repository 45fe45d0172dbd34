// Package bits is layer 1: sets of nodes: see shared/doc/01-bits.md.
package bits

import (
	mathbits "math/bits"

	"marlinspike/api"
)

const (
	// wordSize is how many nodes a word of a set has.
	wordSize = 64
	// fullWord is a word that has all of its nodes.
	fullWord = 1<<wordSize - 1
)

// Of is the set of those of the numbers that are nodes.
func Of(nodes ...int) api.Nodes {
	var s api.Nodes
	for _, i := range nodes {
		if isNode(i) {
			s[i/wordSize] |= bit(i)
		}
	}
	return s
}

// Span is the set of all nodes from one number to another one, both in it.
func Span(from, to int) api.Nodes {
	const last = api.MaxNodes - 1
	// Bounded, so that to - last can not go round, and no bound moves the wrong way.
	from, to = max(from, 0), min(max(to, -1), last)
	return And(Move(all(), from), Move(all(), to-last))
}

// Has tells whether a node is in a set.
func Has(s api.Nodes, i int) bool {
	return isNode(i) && s[i/wordSize]&bit(i) != 0
}

// And is what is in both.
func And(s, t api.Nodes) api.Nodes {
	return merge(s, t, func(a, b uint64) uint64 { return a & b })
}

// Or is what is in one or the other.
func Or(s, t api.Nodes) api.Nodes {
	return merge(s, t, func(a, b uint64) uint64 { return a | b })
}

// Not is what is in the first one alone.
func Not(s, t api.Nodes) api.Nodes {
	return merge(s, t, func(a, b uint64) uint64 { return a &^ b })
}

// Count is how many are in a set.
func Count(s api.Nodes) int {
	n := 0
	for _, word := range s {
		n += mathbits.OnesCount64(word)
	}
	return n
}

// List are the numbers in a set, rising.
func List(s api.Nodes) []int {
	list := make([]int, 0, Count(s))
	for w, word := range s {
		for ; word != 0; word = withoutLowest(word) {
			list = append(list, w*wordSize+mathbits.TrailingZeros64(word))
		}
	}
	return list
}

// First are the n lowest of a set; false, if it has not so many.
func First(s api.Nodes, n int) (api.Nodes, bool) {
	if n < 0 || n > Count(s) {
		return api.Nodes{}, false
	}
	next, more := Nth(s, n)
	if !more {
		return s, true
	}
	return And(s, Span(0, next-1)), true
}

// Nth is the k-th number of a set, from 0 on; false, if there is none.
func Nth(s api.Nodes, k int) (int, bool) {
	if k < 0 {
		return 0, false
	}
	for w, word := range s {
		n := mathbits.OnesCount64(word)
		if k >= n {
			k -= n
			continue
		}
		for range k {
			word = withoutLowest(word)
		}
		return w*wordSize + mathbits.TrailingZeros64(word), true
	}
	return 0, false
}

// Move adds a number to all of a set; those that are no nodes any more fall off.
func Move(s api.Nodes, by int) api.Nodes {
	switch {
	case by <= -api.MaxNodes || by >= api.MaxNodes:
		// Ahead of all else, since the least int has no negative.
		return api.Nodes{}
	case by < 0:
		return down(s, -by)
	}
	return up(s, by)
}

// up moves all numbers up, by less than there are nodes.
func up(s api.Nodes, by int) api.Nodes {
	words, rest := by/wordSize, by%wordSize
	var t api.Nodes
	for w := words; w < len(t); w++ {
		t[w] = s[w-words] << rest
		if w > words {
			t[w] |= s[w-words-1] >> (wordSize - rest)
		}
	}
	return t
}

// down moves all numbers down, by less than there are nodes.
func down(s api.Nodes, by int) api.Nodes {
	words, rest := by/wordSize, by%wordSize
	var t api.Nodes
	for w := 0; w+words < len(t); w++ {
		t[w] = s[w+words] >> rest
		if w+words+1 < len(t) {
			t[w] |= s[w+words+1] << (wordSize - rest)
		}
	}
	return t
}

// merge makes two sets one, word by word.
func merge(s, t api.Nodes, word func(a, b uint64) uint64) api.Nodes {
	for w := range s {
		s[w] = word(s[w], t[w])
	}
	return s
}

// all is the set of all nodes.
func all() api.Nodes {
	return api.Nodes{fullWord, fullWord, fullWord, fullWord}
}

// isNode tells whether a number may be a node's.
func isNode(i int) bool { return i >= 0 && i < api.MaxNodes }

// bit is a node's bit within its word.
func bit(i int) uint64 { return 1 << (i % wordSize) }

// withoutLowest is a word without its lowest bit.
func withoutLowest(word uint64) uint64 { return word & (word - 1) }
