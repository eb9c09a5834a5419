package caps_test

import (
	"testing"

	"forepeak/api"
	"forepeak/caps"
	"forepeak/label"
)

const all = 65535

var (
	bottom = api.Label{S: 0, I: all}
	top    = api.Label{S: all, I: 0}
)

// hasTag tells whether a tag is in a set, without any function of the program.
func hasTag(s uint16, t int) bool { return int(s)/(1<<t)%2 == 1 }

// setOf is the set of the tags that f picks.
func setOf(f func(t int) bool) uint16 {
	s := 0
	for t := range 16 {
		if f(t) {
			s += 1 << t
		}
	}
	return uint16(s)
}

// usedByTags is Used by its definition, tag by tag.
func usedByTags(a, b api.Label) uint16 {
	return setOf(func(t int) bool {
		return hasTag(a.S, t) && !hasTag(b.S, t) || hasTag(b.I, t) && !hasTag(a.I, t)
	})
}

// subByTags tells whether all tags of a are in b, tag by tag.
func subByTags(a, b uint16) bool {
	for t := range 16 {
		if hasTag(a, t) && !hasTag(b, t) {
			return false
		}
	}
	return true
}

// declassifiedByTags is a label without secrecy tags, tag by tag.
func declassifiedByTags(a api.Label, tags uint16) api.Label {
	return api.Label{S: setOf(func(t int) bool { return hasTag(a.S, t) && !hasTag(tags, t) }), I: a.I}
}

// endorsedByTags is a label with more integrity tags, tag by tag.
func endorsedByTags(a api.Label, tags uint16) api.Label {
	return api.Label{S: a.S, I: setOf(func(t int) bool { return hasTag(a.I, t) || hasTag(tags, t) })}
}

// sampleSets are sets at the ends of their range, and some between.
func sampleSets() []uint16 {
	return []uint16{0, 1, 2, 3, 6, 9, 255, 21845, 32767, 32768, 43690, 65534, all}
}

// sampleLabels are the labels of all pairs of the sample sets.
func sampleLabels() []api.Label {
	var l []api.Label
	for _, s := range sampleSets() {
		for _, i := range sampleSets() {
			l = append(l, api.Label{S: s, I: i})
		}
	}
	return l
}

// mixedSets returns a source of sets that look like any, the same ones in each run.
func mixedSets() func() uint16 {
	x := uint64(1)
	return func() uint16 {
		x = x*6364136223846793005 + 1442695040888963407
		return uint16(x >> 40)
	}
}

// eachPair calls f with all pairs of the sample labels, and with mixed ones.
func eachPair(f func(a, b api.Label)) {
	sample := sampleLabels()
	for _, a := range sample {
		for _, b := range sample {
			f(a, b)
		}
	}
	next := mixedSets()
	for range 20000 {
		f(api.Label{S: next(), I: next()}, api.Label{S: next(), I: next()})
	}
}

// smallSets are all sets with no other tags than x and y.
func smallSets(x, y int) []uint16 { return []uint16{0, 1 << x, 1 << y, 1<<x | 1<<y} }

// eachCase calls f with two labels and a set: all those of two tags, for several pairs of tags; some samples; and mixed ones.
func eachCase(f func(a, b api.Label, c uint16)) {
	for _, p := range [][2]int{{0, 1}, {0, 15}, {7, 8}, {14, 15}} {
		eachOf(smallSets(p[0], p[1]), f)
	}
	eachOf([]uint16{0, 9, 43690, all}, f)
	next := mixedSets()
	for range 20000 {
		a, b := api.Label{S: next(), I: next()}, api.Label{S: next(), I: next()}
		f(a, b, next())
		// Labels that differ little: by these sets, some flow and some do not.
		near := api.Label{S: a.S ^ next()&next()&next(), I: a.I ^ next()&next()&next()}
		f(a, near, usedByTags(a, near)|next()&next())
		f(a, near, next()|next()|next())
	}
}

// eachOf calls f with all labels and sets that are made of some sets.
func eachOf(sets []uint16, f func(a, b api.Label, c uint16)) {
	var l []api.Label
	for _, s := range sets {
		for _, i := range sets {
			l = append(l, api.Label{S: s, I: i})
		}
	}
	for _, a := range l {
		for _, b := range l {
			for _, c := range sets {
				f(a, b, c)
			}
		}
	}
}

// P3.1: Used, Flows.

func TestUsed(t *testing.T) {
	cases := []struct {
		a, b api.Label
		want uint16
	}{
		// The chapter's example: S 0,1 and no I, and S 0 and I 2.
		{api.Label{S: 3}, api.Label{S: 1, I: 4}, 6},
		{api.Label{S: 1, I: 4}, api.Label{S: 3}, 0},
		{api.Label{}, api.Label{}, 0},
		{api.Label{S: 3, I: 5}, api.Label{S: 3, I: 5}, 0},
		// One half alone.
		{api.Label{S: 3, I: 8}, api.Label{S: 1, I: 8}, 2},
		{api.Label{S: 1, I: 8}, api.Label{S: 3, I: 8}, 0},
		{api.Label{S: 8, I: 1}, api.Label{S: 8, I: 3}, 2},
		{api.Label{S: 8, I: 3}, api.Label{S: 8, I: 1}, 0},
		{api.Label{S: 1}, api.Label{S: 2}, 1},
		{api.Label{I: 1}, api.Label{I: 2}, 2},
		// The same tag in both halves, and a tag that goes from one into the other.
		{api.Label{S: 2}, api.Label{I: 2}, 2},
		{api.Label{I: 2}, api.Label{S: 2}, 0},
		{api.Label{S: 2, I: 2}, api.Label{}, 2},
		{api.Label{}, api.Label{S: 2, I: 2}, 2},
		{api.Label{S: 3, I: 3}, api.Label{S: 2, I: 7}, 5},
		// The ends of the tags, and of the order.
		{api.Label{S: 32769}, api.Label{S: 1, I: 32768}, 32768},
		{api.Label{S: 32768}, api.Label{I: 1}, 32769},
		{bottom, top, 0},
		{top, bottom, all},
		{bottom, bottom, 0},
		{top, top, 0},
		{top, api.Label{S: 32767}, 32768},
		{api.Label{I: 65534}, bottom, 1},
	}
	for _, c := range cases {
		if got := caps.Used(c.a, c.b); got != c.want {
			t.Errorf("Used(%v, %v) = %d, want %d", c.a, c.b, got, c.want)
		}
	}
}

func TestUsedTagByTag(t *testing.T) {
	check := func(a, b api.Label) {
		if got, want := caps.Used(a, b), usedByTags(a, b); got != want {
			t.Fatalf("Used(%v, %v) = %d, want %d", a, b, got, want)
		}
	}
	eachPair(check)
	for x := range 16 {
		for y := range x {
			eachOf(smallSets(x, y), func(a, b api.Label, _ uint16) { check(a, b) })
		}
	}
}

func TestFlows(t *testing.T) {
	secret, open := api.Label{S: 3, I: 8}, api.Label{S: 1, I: 8}
	low, high := api.Label{S: 3}, api.Label{S: 1, I: 4}
	cases := []struct {
		a, b api.Label
		c    uint16
		want bool
	}{
		// The chapter's example: S 0,1 into S 0 by 1.
		{secret, open, 2, true},
		{secret, open, 0, false},
		{secret, open, 1, false},
		{secret, open, 8, false},
		{secret, open, all - 2, false},
		{secret, open, all, true},
		{open, secret, 0, true},
		{open, secret, all, true},
		// Both halves must be permitted.
		{low, high, 6, true},
		{low, high, 7, true},
		{low, high, 2, false},
		{low, high, 4, false},
		{low, high, 1, false},
		{low, high, 0, false},
		// The capability of a tag is one for both halves.
		{api.Label{S: 2}, api.Label{I: 2}, 2, true},
		{api.Label{S: 2}, api.Label{I: 2}, all - 2, false},
		{api.Label{S: 2}, api.Label{I: 4}, 2, false},
		{bottom, top, 0, true},
		{top, bottom, all, true},
		{top, bottom, all - 1, false},
		{top, bottom, 32767, false},
		{api.Label{}, api.Label{}, 0, true},
	}
	for _, c := range cases {
		if got := caps.Flows(c.a, c.b, c.c); got != c.want {
			t.Errorf("Flows(%v, %v, %d) = %v", c.a, c.b, c.c, got)
		}
	}
}

func TestFlowsTagByTag(t *testing.T) {
	seen := map[bool]int{}
	eachCase(func(a, b api.Label, c uint16) {
		want := subByTags(usedByTags(a, b), c)
		seen[want]++
		if got := caps.Flows(a, b, c); got != want {
			t.Fatalf("Flows(%v, %v, %d) = %v", a, b, c, got)
		}
	})
	if seen[true] < 1000 || seen[false] < 1000 {
		t.Fatalf("cases that flow, and that do not: %v", seen)
	}
}

// P3.2: Raise, Declassify, Endorse.

func TestRaise(t *testing.T) {
	cases := []struct {
		a, b api.Label
		e    api.Errno
	}{
		{api.Label{S: 1, I: 6}, api.Label{S: 3, I: 2}, api.OK},
		{api.Label{S: 3, I: 2}, api.Label{S: 1, I: 6}, api.ErrFlow},
		{api.Label{}, api.Label{}, api.OK},
		{api.Label{S: 3, I: 5}, api.Label{S: 3, I: 5}, api.OK},
		{bottom, top, api.OK},
		{top, bottom, api.ErrFlow},
		// One half alone that may not be.
		{api.Label{S: 1}, api.Label{S: 2}, api.ErrFlow},
		{api.Label{S: 3, I: 3}, api.Label{S: 1, I: 1}, api.ErrFlow},
		{api.Label{I: 1}, api.Label{I: 2}, api.ErrFlow},
		{api.Label{S: 1, I: 1}, api.Label{S: 3, I: 3}, api.ErrFlow},
		{api.Label{S: 32768}, api.Label{S: 32767}, api.ErrFlow},
		{api.Label{I: 32768}, api.Label{}, api.OK},
	}
	for _, c := range cases {
		want := c.b
		if c.e != api.OK {
			want = api.Label{}
		}
		if got, e := caps.Raise(c.a, c.b); got != want || e != c.e {
			t.Errorf("Raise(%v, %v) = %v, %v", c.a, c.b, got, e)
		}
	}
}

func TestRaiseTagByTag(t *testing.T) {
	seen := map[api.Errno]int{}
	eachCase(func(a, b api.Label, _ uint16) {
		want, wantErr := b, api.OK
		if usedByTags(a, b) != 0 {
			want, wantErr = api.Label{}, api.ErrFlow
		}
		seen[wantErr]++
		if got, e := caps.Raise(a, b); got != want || e != wantErr {
			t.Fatalf("Raise(%v, %v) = %v, %v", a, b, got, e)
		}
	})
	if seen[api.OK] == 0 || seen[api.ErrFlow] == 0 {
		t.Fatalf("answers: %v", seen)
	}
}

func TestDeclassify(t *testing.T) {
	a := api.Label{S: 7, I: 10}
	cases := []struct {
		a       api.Label
		tags, c uint16
		want    api.Label
		e       api.Errno
	}{
		{a, 2, 2, api.Label{S: 5, I: 10}, api.OK},
		{a, 2, all, api.Label{S: 5, I: 10}, api.OK},
		{a, 7, 7, api.Label{S: 0, I: 10}, api.OK},
		{a, 0, 0, a, api.OK},
		{a, 0, all, a, api.OK},
		// Only the tags that are asked for go, however many may.
		{a, 1, 7, api.Label{S: 6, I: 10}, api.OK},
		// Tags that S does not have, some of them in I.
		{a, 8, 8, a, api.OK},
		{a, 10, 10, api.Label{S: 5, I: 10}, api.OK},
		{a, all, all, api.Label{S: 0, I: 10}, api.OK},
		{top, 32768, 32768, api.Label{S: 32767}, api.OK},
		{bottom, all, all, bottom, api.OK},
		{top, all, all, api.Label{}, api.OK},
		// Without the capability, also where the tag would have no effect.
		{a, 2, 0, api.Label{}, api.ErrFlow},
		{a, 2, 5, api.Label{}, api.ErrFlow},
		{a, 6, 2, api.Label{}, api.ErrFlow},
		{a, 8, 0, api.Label{}, api.ErrFlow},
		{a, 10, 2, api.Label{}, api.ErrFlow},
		{a, 32768, 32767, api.Label{}, api.ErrFlow},
		{bottom, 1, 0, api.Label{}, api.ErrFlow},
		{top, all, all - 1, api.Label{}, api.ErrFlow},
		{api.Label{}, 1, 0, api.Label{}, api.ErrFlow},
	}
	for _, c := range cases {
		if got, e := caps.Declassify(c.a, c.tags, c.c); got != c.want || e != c.e {
			t.Errorf("Declassify(%v, %d, %d) = %v, %v", c.a, c.tags, c.c, got, e)
		}
	}
}

func TestEndorse(t *testing.T) {
	a := api.Label{S: 10, I: 1}
	cases := []struct {
		a       api.Label
		tags, c uint16
		want    api.Label
		e       api.Errno
	}{
		{a, 4, 4, api.Label{S: 10, I: 5}, api.OK},
		{a, 4, all, api.Label{S: 10, I: 5}, api.OK},
		{a, 0, 0, a, api.OK},
		{a, 0, all, a, api.OK},
		// Only the tags that are asked for come, however many may.
		{a, 2, 7, api.Label{S: 10, I: 3}, api.OK},
		// Tags that I has already, and tags that S has: S stays.
		{a, 1, 1, a, api.OK},
		{a, 5, 5, api.Label{S: 10, I: 5}, api.OK},
		{a, 10, 10, api.Label{S: 10, I: 11}, api.OK},
		{a, all, all, api.Label{S: 10, I: all}, api.OK},
		{top, 32768, 32768, api.Label{S: all, I: 32768}, api.OK},
		{bottom, all, all, bottom, api.OK},
		{top, all, all, api.Label{S: all, I: all}, api.OK},
		// Without the capability, also where the tag is there already.
		{a, 4, 0, api.Label{}, api.ErrFlow},
		{a, 4, 3, api.Label{}, api.ErrFlow},
		{a, 6, 2, api.Label{}, api.ErrFlow},
		{a, 1, 0, api.Label{}, api.ErrFlow},
		{a, 5, 4, api.Label{}, api.ErrFlow},
		{a, 32768, 32767, api.Label{}, api.ErrFlow},
		{bottom, 1, 0, api.Label{}, api.ErrFlow},
		{top, all, all - 1, api.Label{}, api.ErrFlow},
		{api.Label{}, 1, 0, api.Label{}, api.ErrFlow},
	}
	for _, c := range cases {
		if got, e := caps.Endorse(c.a, c.tags, c.c); got != c.want || e != c.e {
			t.Errorf("Endorse(%v, %d, %d) = %v, %v", c.a, c.tags, c.c, got, e)
		}
	}
}

// eachAsked calls f with a label, tags that are asked for, and capabilities.
func eachAsked(f func(a api.Label, tags, c uint16)) {
	eachCase(func(a, b api.Label, c uint16) {
		f(a, b.S, c)
		f(a, b.I&c, c)
	})
}

func TestDeclassifyTagByTag(t *testing.T) {
	eachAsked(func(a api.Label, tags, c uint16) {
		want, wantErr := declassifiedByTags(a, tags), api.OK
		if !subByTags(tags, c) {
			want, wantErr = api.Label{}, api.ErrFlow
		}
		if got, e := caps.Declassify(a, tags, c); got != want || e != wantErr {
			t.Fatalf("Declassify(%v, %d, %d) = %v, %v", a, tags, c, got, e)
		}
	})
}

func TestEndorseTagByTag(t *testing.T) {
	eachAsked(func(a api.Label, tags, c uint16) {
		want, wantErr := endorsedByTags(a, tags), api.OK
		if !subByTags(tags, c) {
			want, wantErr = api.Label{}, api.ErrFlow
		}
		if got, e := caps.Endorse(a, tags, c); got != want || e != wantErr {
			t.Fatalf("Endorse(%v, %d, %d) = %v, %v", a, tags, c, got, e)
		}
	})
}

// P3.3: none, more, and all capabilities.

func TestFlowsWithoutCapabilities(t *testing.T) {
	eachPair(func(a, b api.Label) {
		if caps.Flows(a, b, 0) != label.Flows(a, b) {
			t.Fatalf("%v and %v", a, b)
		}
	})
	eachCase(func(a, b api.Label, _ uint16) {
		if caps.Flows(a, b, 0) != label.Flows(a, b) {
			t.Fatalf("%v and %v", a, b)
		}
	})
}

func TestMoreCapabilitiesNeverPermitLess(t *testing.T) {
	flows := 0
	check := func(a, b api.Label, c, more uint16) {
		if !caps.Flows(a, b, c) {
			return
		}
		flows++
		if !caps.Flows(a, b, c|more) {
			t.Fatalf("%v flows into %v by %d, but not by %d", a, b, c, c|more)
		}
	}
	eachCase(func(a, b api.Label, c uint16) {
		for x := range 16 {
			check(a, b, c, 1<<x)
		}
		check(a, b, c, a.S)
		check(a, b, c, b.I)
	})
	if flows == 0 {
		t.Fatal("nothing flowed")
	}
}

func TestAllCapabilitiesPermitEveryFlow(t *testing.T) {
	eachPair(func(a, b api.Label) {
		if !caps.Flows(a, b, all) {
			t.Fatalf("%v does not flow into %v", a, b)
		}
	})
}

// The used capabilities are the least by which a label flows.
func TestUsedIsTheLeastThatPermits(t *testing.T) {
	eachPair(func(a, b api.Label) {
		used := caps.Used(a, b)
		if !caps.Flows(a, b, used) {
			t.Fatalf("%v does not flow into %v by %d", a, b, used)
		}
		for x := range 16 {
			if hasTag(used, x) && caps.Flows(a, b, all-1<<x) {
				t.Fatalf("%v flows into %v without %d", a, b, x)
			}
		}
	})
}

// P3.4: declassified and endorsed by the capabilities, a label flows without any.

// lowered is a label, declassified and endorsed by capabilities.
func lowered(t *testing.T, a api.Label, c uint16) api.Label {
	d, e := caps.Declassify(a, c, c)
	if e != api.OK {
		t.Fatalf("Declassify(%v, %d, %d): %v", a, c, c, e)
	}
	d, e = caps.Endorse(d, c, c)
	if e != api.OK {
		t.Fatalf("Endorse of %v by %d: %v", a, c, e)
	}
	return d
}

func TestLoweredLabelFlowsWithoutCapabilities(t *testing.T) {
	flows := 0
	eachCase(func(a, b api.Label, c uint16) {
		if !caps.Flows(a, b, c) {
			return
		}
		if !label.Flows(a, b) {
			flows++
		}
		low := lowered(t, a, c)
		if !label.Flows(low, b) || !caps.Flows(low, b, 0) {
			t.Fatalf("%v flows into %v by %d, but %v does not", a, b, c, low)
		}
		if got, e := caps.Raise(low, b); got != b || e != api.OK {
			t.Fatalf("Raise(%v, %v) = %v, %v", low, b, got, e)
		}
	})
	if flows == 0 {
		t.Fatal("nothing flowed by a capability")
	}
}
