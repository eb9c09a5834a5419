package label_test

import (
	"slices"
	"strconv"
	"strings"
	"testing"

	"forepeak/api"
	"forepeak/label"
)

const all = 65535

var (
	bottom = api.Label{S: 0, I: all}
	top    = api.Label{S: all, I: 0}
)

// The labels of the chapter's examples: S 0 and I 1,2, and S 0,1 and I 1.
var (
	first  = api.Label{S: 1, I: 6}
	second = api.Label{S: 3, I: 2}
)

// hasTag tells whether a tag is in a set, without any function of the program.
func hasTag(s uint16, t int) bool { return int(s)/(1<<t)%2 == 1 }

// flowsByTags is Flows by its definition, tag by tag.
func flowsByTags(a, b api.Label) bool {
	for t := range 16 {
		if hasTag(a.S, t) && !hasTag(b.S, t) || hasTag(b.I, t) && !hasTag(a.I, t) {
			return false
		}
	}
	return true
}

// countTags is how many of some sets have a tag.
func countTags(t int, sets ...uint16) int {
	n := 0
	for _, s := range sets {
		if hasTag(s, t) {
			n++
		}
	}
	return n
}

// union is the set of the tags that one of some sets has.
func union(sets ...uint16) uint16 {
	s := 0
	for t := range 16 {
		if countTags(t, sets...) > 0 {
			s += 1 << t
		}
	}
	return uint16(s)
}

// intersection is the set of the tags that all of some sets have.
func intersection(sets ...uint16) uint16 {
	s := 0
	for t := range 16 {
		if countTags(t, sets...) == len(sets) {
			s += 1 << t
		}
	}
	return uint16(s)
}

// setText is a set's text, without any function of the program.
func setText(s uint16) string {
	var tags []string
	for t := range 16 {
		if hasTag(s, t) {
			tags = append(tags, strconv.Itoa(t))
		}
	}
	if tags == nil {
		return "-"
	}
	return strings.Join(tags, ",")
}

// sampleSets are sets at the ends of their range, and some between.
func sampleSets() []uint16 {
	return []uint16{0, 1, 2, 3, 6, 9, 255, 256, 21845, 32767, 32768, 32769, 43690, 65534, all}
}

// sampleLabels are the labels of all pairs of the sample sets.
func sampleLabels() []api.Label {
	var l []api.Label
	for _, s := range sampleSets() {
		for _, i := range sampleSets() {
			l = append(l, api.Label{S: s, I: i})
		}
	}
	return l
}

// smallLabels are all labels with no other tags than x and y.
func smallLabels(x, y int) []api.Label {
	sets := []uint16{0, 1 << x, 1 << y, 1<<x | 1<<y}
	var l []api.Label
	for _, s := range sets {
		for _, i := range sets {
			l = append(l, api.Label{S: s, I: i})
		}
	}
	return l
}

// mixedLabels are n labels that look like any.
func mixedLabels(n int) []api.Label {
	l := make([]api.Label, n)
	x := uint64(1)
	for k := range l {
		x = x*6364136223846793005 + 1442695040888963407
		l[k] = api.Label{S: uint16(x >> 32), I: uint16(x >> 48)}
	}
	return l
}

// eachPair calls f with all pairs of the sample labels, and of the mixed ones.
func eachPair(f func(a, b api.Label)) {
	for _, l := range [][]api.Label{sampleLabels(), mixedLabels(200)} {
		for _, a := range l {
			for _, b := range l {
				f(a, b)
			}
		}
	}
}

// eachTriple calls f with all triples of the labels with two tags, for several pairs of tags.
func eachTriple(f func(a, b, c api.Label)) {
	for _, p := range [][2]int{{0, 1}, {0, 15}, {7, 8}, {14, 15}} {
		l := smallLabels(p[0], p[1])
		for _, a := range l {
			for _, b := range l {
				for _, c := range l {
					f(a, b, c)
				}
			}
		}
	}
}

// P2.1: Bottom, Top, Flows.

func TestBottomAndTop(t *testing.T) {
	if got := label.Bottom(); got != bottom {
		t.Errorf("Bottom() = %v", got)
	}
	if got := label.Top(); got != top {
		t.Errorf("Top() = %v", got)
	}
}

func TestBottomFlowsIntoAllAndAllIntoTop(t *testing.T) {
	for _, a := range append(sampleLabels(), mixedLabels(1000)...) {
		if !label.Flows(label.Bottom(), a) || !label.Flows(a, label.Top()) {
			t.Errorf("not between bottom and top: %v", a)
		}
		if label.Flows(a, label.Bottom()) != (a == bottom) || label.Flows(label.Top(), a) != (a == top) {
			t.Errorf("below bottom or above top: %v", a)
		}
	}
}

func TestFlows(t *testing.T) {
	cases := []struct {
		a, b api.Label
		want bool
	}{
		{first, second, true},
		{second, first, false},
		{first, first, true},
		{api.Label{}, api.Label{}, true},
		{bottom, top, true},
		{top, bottom, false},
		{api.Label{S: 1}, api.Label{S: 3}, true},
		{api.Label{S: 3}, api.Label{S: 1}, false},
		{api.Label{I: 3}, api.Label{I: 1}, true},
		{api.Label{I: 1}, api.Label{I: 3}, false},
		{api.Label{S: 1}, api.Label{S: 2}, false},
		{api.Label{I: 1}, api.Label{I: 2}, false},
		// One half alone is not enough.
		{api.Label{S: 1, I: 1}, api.Label{S: 3, I: 3}, false},
		{api.Label{S: 3, I: 3}, api.Label{S: 1, I: 1}, false},
		// The two halves are not held against each other.
		{api.Label{S: 2, I: 0}, api.Label{S: 2, I: 0}, true},
		{api.Label{S: 2, I: 0}, api.Label{S: 0, I: 2}, false},
		{api.Label{S: 0, I: 2}, api.Label{S: 2, I: 0}, true},
		{api.Label{S: 32768}, api.Label{S: all}, true},
		{api.Label{S: 32768}, api.Label{S: 32767}, false},
		{api.Label{I: 32767}, api.Label{I: 32768}, false},
	}
	for _, c := range cases {
		if got := label.Flows(c.a, c.b); got != c.want {
			t.Errorf("Flows(%v, %v) = %v", c.a, c.b, got)
		}
	}
}

func TestFlowsTagByTag(t *testing.T) {
	check := func(a, b api.Label) {
		if got := label.Flows(a, b); got != flowsByTags(a, b) {
			t.Fatalf("Flows(%v, %v) = %v", a, b, got)
		}
	}
	eachPair(check)
	for x := range 16 {
		for y := range 16 {
			for _, a := range smallLabels(x, y) {
				for _, b := range smallLabels(x, y) {
					check(a, b)
				}
			}
		}
	}
}

// P2.2: Join, Meet, Cmp, Tags.

func TestJoinAndMeetOfNothing(t *testing.T) {
	for _, l := range [][]api.Label{nil, {}} {
		if got := label.Join(l...); got != bottom {
			t.Errorf("Join() = %v", got)
		}
		if got := label.Meet(l...); got != top {
			t.Errorf("Meet() = %v", got)
		}
	}
}

func TestJoinAndMeet(t *testing.T) {
	cases := []struct {
		l          []api.Label
		join, meet api.Label
	}{
		{[]api.Label{{}}, api.Label{}, api.Label{}},
		{[]api.Label{first}, first, first},
		{[]api.Label{first, first}, first, first},
		{[]api.Label{first, second}, second, first},
		{[]api.Label{second, first}, second, first},
		{[]api.Label{bottom, top}, top, bottom},
		{[]api.Label{{S: 1, I: 1}, {S: 2, I: 2}}, api.Label{S: 3}, api.Label{I: 3}},
		{[]api.Label{{S: 1, I: 7}, {S: 2, I: 3}, {S: 4, I: 5}}, api.Label{S: 7, I: 1}, api.Label{S: 0, I: 7}},
		{[]api.Label{{S: 7, I: 1}, {S: 3, I: 2}, {S: 5, I: 4}}, api.Label{S: 7, I: 0}, api.Label{S: 1, I: 7}},
		{[]api.Label{{S: 32768, I: 32769}, {S: 1, I: 32768}}, api.Label{S: 32769, I: 32768}, api.Label{I: 32769}},
		{[]api.Label{top, first, bottom}, top, bottom},
		{[]api.Label{bottom, first}, first, bottom},
		{[]api.Label{top, first}, top, first},
	}
	for _, c := range cases {
		if got := label.Join(c.l...); got != c.join {
			t.Errorf("Join(%v) = %v, want %v", c.l, got, c.join)
		}
		if got := label.Meet(c.l...); got != c.meet {
			t.Errorf("Meet(%v) = %v, want %v", c.l, got, c.meet)
		}
	}
}

func TestJoinAndMeetTagByTag(t *testing.T) {
	check := func(l ...api.Label) {
		var s, i []uint16
		for _, a := range l {
			s, i = append(s, a.S), append(i, a.I)
		}
		if got, want := label.Join(l...), (api.Label{S: union(s...), I: intersection(i...)}); got != want {
			t.Fatalf("Join(%v) = %v, want %v", l, got, want)
		}
		if got, want := label.Meet(l...), (api.Label{S: intersection(s...), I: union(i...)}); got != want {
			t.Fatalf("Meet(%v) = %v, want %v", l, got, want)
		}
	}
	eachPair(func(a, b api.Label) { check(a, b) })
	eachTriple(func(a, b, c api.Label) { check(a, b, c) })
	mixed := mixedLabels(400)
	for n := range 20 {
		for from := 0; from+n <= len(mixed); from += 7 {
			check(mixed[from : from+n]...)
		}
	}
}

func TestJoinAndMeetLeaveTheirArguments(t *testing.T) {
	room := []api.Label{first, second, first, top, bottom}
	before := slices.Clone(room)
	join, meet := label.Join(room[:3]...), label.Meet(room[:3]...)
	if !slices.Equal(room, before) {
		t.Errorf("arguments became %v", room)
	}
	// Neither what lies behind the arguments nor what becomes of them counts.
	room[0], room[1], room[2] = top, bottom, top
	if join != second || meet != first {
		t.Errorf("results are %v and %v", join, meet)
	}
}

func TestJoinAndMeetOfMany(t *testing.T) {
	l := make([]api.Label, 1<<22)
	for n := range l {
		l[n] = api.Label{S: 6, I: 6}
	}
	l[0], l[len(l)-1] = api.Label{S: 2, I: 14}, api.Label{S: 7, I: 4}
	if got, want := label.Join(l...), (api.Label{S: 7, I: 4}); got != want {
		t.Errorf("Join = %v", got)
	}
	if got, want := label.Meet(l...), (api.Label{S: 2, I: 14}); got != want {
		t.Errorf("Meet = %v", got)
	}
}

func TestCmp(t *testing.T) {
	cases := []struct {
		a, b api.Label
		want int
	}{
		{api.Label{}, api.Label{}, 0},
		{first, first, 0},
		{top, top, 0},
		{first, second, -1},
		{second, first, 1},
		{bottom, top, -1},
		{top, bottom, 1},
		// I counts where S is equal,
		{api.Label{S: 5, I: 1}, api.Label{S: 5, I: 2}, -1},
		{api.Label{S: 5, I: 2}, api.Label{S: 5, I: 1}, 1},
		{api.Label{S: 5, I: 32767}, api.Label{S: 5, I: 32768}, -1},
		{api.Label{S: 5, I: all}, api.Label{S: 5, I: 0}, 1},
		// and only there.
		{api.Label{S: 1, I: 9}, api.Label{S: 2, I: 3}, -1},
		{api.Label{S: 2, I: 3}, api.Label{S: 1, I: 9}, 1},
		{api.Label{S: 32767, I: all}, api.Label{S: 32768, I: 0}, -1},
		{api.Label{S: all, I: 0}, api.Label{S: 0, I: all}, 1},
		// The numbers count, not the sets, nor how many tags they have.
		{api.Label{S: 7}, api.Label{S: 8}, -1},
		{api.Label{S: 8}, api.Label{S: 7}, 1},
	}
	for _, c := range cases {
		if got := label.Cmp(c.a, c.b); got != c.want {
			t.Errorf("Cmp(%v, %v) = %d", c.a, c.b, got)
		}
	}
}

func TestCmpIsTheOrderOfTheNumbers(t *testing.T) {
	number := func(a api.Label) int { return int(a.S)*65536 + int(a.I) }
	eachPair(func(a, b api.Label) {
		want := 0
		if number(a) < number(b) {
			want = -1
		}
		if number(a) > number(b) {
			want = 1
		}
		if got := label.Cmp(a, b); got != want {
			t.Fatalf("Cmp(%v, %v) = %d", a, b, got)
		}
	})
}

func TestTags(t *testing.T) {
	cases := []struct {
		a    api.Label
		want uint16
	}{
		{api.Label{}, 0},
		{first, 7},
		{second, 3},
		{bottom, all},
		{top, all},
		{api.Label{S: 1}, 1},
		{api.Label{I: 1}, 1},
		{api.Label{S: 32768, I: 1}, 32769},
	}
	for _, c := range cases {
		if got := label.Tags(c.a); got != c.want {
			t.Errorf("Tags(%v) = %d", c.a, got)
		}
	}
	for _, a := range append(sampleLabels(), mixedLabels(1000)...) {
		if got, want := label.Tags(a), union(a.S, a.I); got != want {
			t.Errorf("Tags(%v) = %d, want %d", a, got, want)
		}
	}
}

// P2.3: Text, Parse.

func TestText(t *testing.T) {
	cases := []struct {
		a    api.Label
		want string
	}{
		{api.Label{}, "-/-"},
		{second, "0,1/1"},
		{first, "0/1,2"},
		{api.Label{S: 32769}, "0,15/-"},
		{api.Label{I: 32769}, "-/0,15"},
		{bottom, "-/0,1,2,3,4,5,6,7,8,9,10,11,12,13,14,15"},
		{top, "0,1,2,3,4,5,6,7,8,9,10,11,12,13,14,15/-"},
	}
	for _, c := range cases {
		if got := label.Text(c.a); got != c.want {
			t.Errorf("Text(%v) = %q, want %q", c.a, got, c.want)
		}
	}
}

func TestTextAndParseOfEachSet(t *testing.T) {
	check := func(a api.Label) {
		text := setText(a.S) + "/" + setText(a.I)
		if got := label.Text(a); got != text {
			t.Fatalf("Text(%v) = %q, want %q", a, got, text)
		}
		if got, e := label.Parse(text); got != a || e != api.OK {
			t.Fatalf("Parse(%q) = %v, %v", text, got, e)
		}
	}
	for n := range 1 << 16 {
		s := uint16(n)
		check(api.Label{S: s, I: s * 40503})
		check(api.Label{S: s * 40503, I: s})
	}
	for _, a := range sampleLabels() {
		check(a)
	}
}

func TestParseRejects(t *testing.T) {
	texts := []string{
		// Not two sets.
		"", "-", "0", "0,1", "/", "//", "///", "-/", "/-", "0/", "/0", "-/-/", "/-/-", "-//-", "-/-/-", "0/1/2", "0/1/", "/0/1",
		// The first set has no text.
		"00/-", "01/-", "16/-", "-1/-", "+1/-", "1,0/-", "1,1/-", "0,/-", ",0/-", "--/-", "-,0/-", "0,-/-", " /-", "x/-", "0 /-", " -/-", "- /-",
		// The second one has none.
		"-/00", "-/01", "-/16", "-/-1", "-/+1", "-/1,0", "-/1,1", "-/0,", "-/,0", "-/--", "-/-,0", "-/0,-", "-/ ", "-/x", "-/ 0", "-/- ", "-/-\n", "-/-\x00",
		// Neither has one.
		"x/y", "16/16", " / ", "1,0/1,0",
		// Another sign between them.
		"-\\-", "-|-", "0;1", "0 1", "0:1", "--", "- -", "0\u2215" + "1", "0\uff0f1", "\xff/\xff", "\x00",
		"0,1,2,3,4,5,6,7,8,9,10,11,12,13,14,15,16/-", "-/0,1,2,3,4,5,6,7,8,9,10,11,12,13,14,15,",
	}
	for _, s := range texts {
		if got, e := label.Parse(s); got != (api.Label{}) || e != api.ErrForm {
			t.Errorf("Parse(%q) = %v, %v", s, got, e)
		}
	}
}

func TestParseRejectsLongTexts(t *testing.T) {
	const most = 1 << 24
	texts := []string{
		strings.Repeat("/", most),
		strings.Repeat("-", most),
		strings.Repeat("0", most),
		strings.Repeat("-/", most/2),
		strings.Repeat("0,", most/2),
		"-/" + strings.Repeat("9", most-2),
		"0/1" + strings.Repeat("/", most-3),
		strings.Repeat("1", most-2) + "/-",
	}
	for _, s := range texts {
		if got, e := label.Parse(s); got != (api.Label{}) || e != api.ErrForm {
			t.Errorf("Parse of %q .. = %v, %v", s[:4], got, e)
		}
	}
}

// shortSets are the sets of at most two tags by their texts: no other text of a set fits into a short text of a label.
func shortSets() map[string]uint16 {
	sets := map[string]uint16{"-": 0}
	for x := range 16 {
		sets[setText(1<<x)] = 1 << x
		for y := range x {
			s := uint16(1<<x | 1<<y)
			sets[setText(s)] = s
		}
	}
	return sets
}

// Every short string of these bytes is the text of a label, or rejected.
func TestParseShortTexts(t *testing.T) {
	sets := shortSets()
	labels := map[string]api.Label{}
	for x, s := range sets {
		for y, i := range sets {
			labels[x+"/"+y] = api.Label{S: s, I: i}
		}
	}
	var check func(s string, more int)
	check = func(s string, more int) {
		want, isText := labels[s]
		got, e := label.Parse(s)
		if isText && (got != want || e != api.OK) || !isText && (got != api.Label{} || e != api.ErrForm) {
			t.Errorf("Parse(%q) = %v, %v", s, got, e)
		}
		if more == 0 {
			return
		}
		for _, b := range "01569,-/ +" {
			check(s+string(b), more-1)
		}
	}
	check("", 5)
}

// P2.4: Flows is a partial order.

func TestFlowsIsReflexive(t *testing.T) {
	for _, a := range append(sampleLabels(), mixedLabels(5000)...) {
		if !label.Flows(a, a) {
			t.Fatalf("%v does not flow into itself", a)
		}
	}
}

func TestFlowsIsAntisymmetric(t *testing.T) {
	check := func(a, b api.Label) {
		if label.Flows(a, b) && label.Flows(b, a) && a != b {
			t.Fatalf("%v and %v flow into each other", a, b)
		}
	}
	eachPair(check)
	eachTriple(func(a, b, _ api.Label) { check(a, b) })
}

func TestFlowsIsTransitive(t *testing.T) {
	chains := 0
	check := func(a, b, c api.Label) {
		if !label.Flows(a, b) || !label.Flows(b, c) {
			return
		}
		chains++
		if !label.Flows(a, c) {
			t.Fatalf("%v flows into %v, this into %v, but not the first into the third", a, b, c)
		}
	}
	eachTriple(check)
	sample := sampleLabels()
	for _, a := range sample {
		for _, b := range sample {
			if !label.Flows(a, b) {
				continue
			}
			for _, c := range sample {
				check(a, b, c)
			}
		}
	}
	if chains == 0 {
		t.Fatal("no chain was checked")
	}
}

// Flows is no order of all labels: some flow neither way.
func TestFlowsIsPartial(t *testing.T) {
	a, b := api.Label{S: 1}, api.Label{S: 2}
	if label.Flows(a, b) || label.Flows(b, a) {
		t.Errorf("%v and %v", a, b)
	}
}

// P2.5: Join is the least upper bound, Meet the greatest lower one.

func TestJoinIsAnUpperBoundAndMeetALowerOne(t *testing.T) {
	eachPair(func(a, b api.Label) {
		join, meet := label.Join(a, b), label.Meet(a, b)
		if !label.Flows(a, join) || !label.Flows(b, join) {
			t.Fatalf("the join of %v and %v is %v", a, b, join)
		}
		if !label.Flows(meet, a) || !label.Flows(meet, b) {
			t.Fatalf("the meet of %v and %v is %v", a, b, meet)
		}
	})
}

func TestJoinIsTheLeastAndMeetTheGreatest(t *testing.T) {
	eachTriple(func(a, b, c api.Label) {
		above := label.Flows(a, c) && label.Flows(b, c)
		if above != label.Flows(label.Join(a, b), c) {
			t.Fatalf("the join of %v and %v, held against %v", a, b, c)
		}
		below := label.Flows(c, a) && label.Flows(c, b)
		if below != label.Flows(c, label.Meet(a, b)) {
			t.Fatalf("the meet of %v and %v, held against %v", a, b, c)
		}
	})
}

func TestFlowsByJoinAndMeet(t *testing.T) {
	eachPair(func(a, b api.Label) {
		flows := label.Flows(a, b)
		if flows != (label.Join(a, b) == b) || flows != (label.Meet(a, b) == a) {
			t.Fatalf("%v and %v", a, b)
		}
	})
}

func TestJoinAndMeetOfJoinsAndMeets(t *testing.T) {
	eachTriple(func(a, b, c api.Label) {
		join, meet := label.Join(a, b, c), label.Meet(a, b, c)
		if join != label.Join(label.Join(a, b), c) || join != label.Join(c, b, a) {
			t.Fatalf("Join(%v, %v, %v) = %v", a, b, c, join)
		}
		if meet != label.Meet(label.Meet(a, b), c) || meet != label.Meet(c, b, a) {
			t.Fatalf("Meet(%v, %v, %v) = %v", a, b, c, meet)
		}
	})
	eachPair(func(a, b api.Label) {
		if label.Join(a, label.Meet(a, b)) != a || label.Meet(a, label.Join(a, b)) != a {
			t.Fatalf("%v does not absorb %v", a, b)
		}
	})
}
