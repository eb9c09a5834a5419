// Package tagset is layer 1: sets of tags as 16-bit numbers: see shared/doc/01-tagset.md.
package tagset

import (
	"iter"
	"math/bits"
	"strconv"
	"strings"

	"forepeak/api"
)

// All is the set of all tags.
const All = 1<<16 - 1

// none is the text of the empty set.
const none = "-"

// comma stands between two tags of a text.
const comma = ","

// Of is the set of those arguments that are tags.
func Of(tags ...int) uint16 {
	var s uint16
	for _, t := range tags {
		if isTag(t) {
			s |= 1 << t
		}
	}
	return s
}

// Has tells whether a tag is in a set.
func Has(s uint16, t int) bool { return isTag(t) && s>>t&1 == 1 }

// Sub tells whether all tags of a are in b.
func Sub(a, b uint16) bool { return a&^b == 0 }

// Count is how many tags a set has.
func Count(s uint16) int { return bits.OnesCount16(s) }

// Least is the least tag of a set, if it has one.
func Least(s uint16) (int, bool) {
	if s == 0 {
		return 0, false
	}
	return bits.TrailingZeros16(s), true
}

// Each goes through a set's tags in increasing order.
func Each(s uint16) iter.Seq[int] {
	return func(yield func(int) bool) {
		// left is a variable of each run, so that the iterator can be used again.
		for left := s; left != 0; left &= left - 1 {
			if !yield(bits.TrailingZeros16(left)) {
				return
			}
		}
	}
}

// Text is a set's text: its tags in increasing order.
func Text(s uint16) string {
	if s == 0 {
		return none
	}
	var words []string
	for t := range Each(s) {
		words = append(words, strconv.Itoa(t))
	}
	return strings.Join(words, comma)
}

// Parse is the set that has a text, or ErrForm if no set has it.
func Parse(s string) (uint16, api.Errno) {
	if s == none {
		return 0, api.OK
	}
	var set uint16
	last := -1
	for rest, more := s, true; more; {
		var word string
		word, rest, more = strings.Cut(rest, comma)
		t, ok := parseTag(word)
		if !ok || t <= last {
			return 0, api.ErrForm
		}
		set |= 1 << t
		last = t
	}
	return set, api.OK
}

// isTag tells whether a number is a tag.
func isTag(t int) bool { return 0 <= t && t < api.MaxTags }

// parseTag is the tag of a word.
func parseTag(word string) (int, bool) {
	t, err := strconv.Atoi(word)
	if err != nil || !isTag(t) {
		return 0, false
	}
	// Atoi takes signs and leading zeros, which no text of a set has.
	if strconv.Itoa(t) != word {
		return 0, false
	}
	return t, true
}
