package relabel_test

import (
	"math"
	"testing"

	"forepeak/api"
	"forepeak/relabel"
)

const all = 65535

// notTags are numbers that are no tags, among them those whose low bits would be one's.
var notTags = []int{-1, -2, -16, -256, 16, 17, 21, 255, 256, 258, 65536, 65538, math.MaxInt, math.MinInt}

// identity is the map that moves no tag, written out.
var identity = api.Map{0, 1, 2, 3, 4, 5, 6, 7, 8, 9, 10, 11, 12, 13, 14, 15}

// hasTag tells whether a tag is in a set, without any function of the program.
func hasTag(s uint16, t int) bool { return int(s)/(1<<t)%2 == 1 }

// setOf is the set of the tags that f picks.
func setOf(f func(t int) bool) uint16 {
	s := 0
	for t := range 16 {
		if f(t) {
			s += 1 << t
		}
	}
	return uint16(s)
}

// with is the map that moves no tag, but for some pairs: the second number of each is assigned to the first.
func with(pairs ...[2]uint8) api.Map {
	m := identity
	for _, p := range pairs {
		m[p[0]] = p[1]
	}
	return m
}

// allTo is the map that assigns one number to every tag.
func allTo(n uint8) api.Map {
	var m api.Map
	for t := range 16 {
		m[t] = n
	}
	return m
}

// fineByTags is Fine by its definition, tag by tag.
func fineByTags(m api.Map) bool {
	for t := range 16 {
		if m[t] > 15 || m[m[t]] != m[t] {
			return false
		}
	}
	return true
}

// imageByTags is the image of a set by its definition: a tag is in it if it replaces one of the set's.
func imageByTags(m api.Map, s uint16) uint16 {
	return setOf(func(u int) bool {
		for t := range 16 {
			if hasTag(s, t) && int(m[t]) == u {
				return true
			}
		}
		return false
	})
}

// labelByTags is the image of a label by its definition.
func labelByTags(m api.Map, a api.Label) api.Label {
	return api.Label{S: imageByTags(m, a.S), I: imageByTags(m, a.I)}
}

// movedByTags is Moved by its definition.
func movedByTags(m api.Map) uint16 {
	return setOf(func(t int) bool { return int(m[t]) != t })
}

// flowsByTags tells whether a label flows into another one, tag by tag.
func flowsByTags(a, b api.Label) bool {
	for t := range 16 {
		if hasTag(a.S, t) && !hasTag(b.S, t) || hasTag(b.I, t) && !hasTag(a.I, t) {
			return false
		}
	}
	return true
}

// mixed returns a source of numbers that look like any, the same ones in each run.
func mixed() func(below int) int {
	x := uint64(1)
	return func(below int) int {
		x = x*6364136223846793005 + 1442695040888963407
		return int(x>>33) % below
	}
}

// mixedMap is a valid map: each tag is replaced by one of some that stay.
func mixedMap(next func(below int) int) api.Map {
	var stay []int
	for t := range 16 {
		if next(3) == 0 {
			stay = append(stay, t)
		}
	}
	if len(stay) == 0 {
		stay = append(stay, next(16))
	}
	var m api.Map
	for t := range 16 {
		m[t] = uint8(stay[next(len(stay))])
	}
	for _, t := range stay {
		m[t] = uint8(t)
	}
	return m
}

// plainMaps are valid maps of every shape: none moved, one moved into every other place, many into one place, and in pairs.
func plainMaps() []api.Map {
	l := []api.Map{
		identity, allTo(0), allTo(7), allTo(15),
		{0, 0, 2, 2, 4, 4, 6, 6, 8, 8, 10, 10, 12, 12, 14, 14},
		{15, 14, 13, 12, 11, 10, 9, 8, 8, 9, 10, 11, 12, 13, 14, 15},
		{0, 1, 2, 3, 4, 5, 6, 7, 7, 6, 5, 4, 3, 2, 1, 0},
	}
	for t := range uint8(16) {
		for to := range uint8(16) {
			l = append(l, with([2]uint8{t, to}))
		}
	}
	return l
}

// validMaps are the plain maps, and mixed ones.
func validMaps() []api.Map {
	l := plainMaps()
	next := mixed()
	for range 300 {
		l = append(l, mixedMap(next))
	}
	return l
}

// sampleSets are sets at the ends of their range, and some between.
func sampleSets() []uint16 {
	return []uint16{0, 1, 2, 3, 6, 9, 34, 255, 21845, 32767, 32768, 43690, 65534, all}
}

// eachLabel calls f with all valid maps and the labels of all pairs of the sample sets, and of mixed sets.
func eachLabel(f func(m api.Map, a api.Label)) {
	next := mixed()
	for _, m := range validMaps() {
		for _, s := range sampleSets() {
			for _, i := range sampleSets() {
				f(m, api.Label{S: s, I: i})
			}
		}
		for range 50 {
			f(m, api.Label{S: uint16(next(65536)), I: uint16(next(65536))})
		}
	}
}

// eachTwo calls f with pairs of valid maps: all pairs of some, and mixed ones.
func eachTwo(f func(a, b api.Map)) {
	l := validMaps()
	some := append(l[:40:40], l[len(l)-40:]...)
	for _, a := range some {
		for _, b := range some {
			f(a, b)
		}
	}
	next := mixed()
	for range 20000 {
		f(l[next(len(l))], l[next(len(l))])
	}
}

// The maps that these tests take for valid ones are valid, by the definition.
func TestMapsOfTheseTestsAreValid(t *testing.T) {
	for _, m := range validMaps() {
		if !fineByTags(m) {
			t.Fatalf("not valid: %v", m)
		}
	}
}

// P4.1: Same, Fine, Set, Label, Moved, Touches.

func TestSame(t *testing.T) {
	if got := relabel.Same(); got != identity {
		t.Fatal(got)
	}
	// What becomes of a result counts for no other one.
	m := relabel.Same()
	m[2] = 5
	if got := relabel.Same(); got != identity || m == got {
		t.Fatal(got)
	}
}

func TestFine(t *testing.T) {
	cases := []struct {
		m    api.Map
		want bool
	}{
		{identity, true},
		{with([2]uint8{2, 5}), true},
		{with([2]uint8{2, 5}, [2]uint8{3, 5}, [2]uint8{9, 0}), true},
		// Into one place: the zero map is one, too.
		{api.Map{}, true},
		{allTo(1), true},
		{allTo(15), true},
		// The replacement is replaced itself: by a third, by the first, in a circle.
		{with([2]uint8{2, 5}, [2]uint8{5, 7}), false},
		{with([2]uint8{5, 2}, [2]uint8{7, 5}), false},
		{with([2]uint8{2, 5}, [2]uint8{5, 2}), false},
		{with([2]uint8{15, 0}, [2]uint8{0, 15}), false},
		{with([2]uint8{1, 2}, [2]uint8{2, 3}, [2]uint8{3, 1}), false},
		{api.Map{15, 14, 13, 12, 11, 10, 9, 8, 7, 6, 5, 4, 3, 2, 1, 0}, false},
		// Numbers that are no tags.
		{with([2]uint8{0, 16}), false},
		{with([2]uint8{15, 16}), false},
		{with([2]uint8{3, 255}), false},
		{with([2]uint8{2, 5}, [2]uint8{15, 31}), false},
		{allTo(16), false},
		{allTo(255), false},
	}
	for _, c := range cases {
		if got := relabel.Fine(c.m); got != c.want {
			t.Errorf("Fine(%v) = %v", c.m, got)
		}
	}
}

// checkFine holds Fine against its definition, and counts what it answers.
func checkFine(t *testing.T, seen map[bool]int, m api.Map) {
	want := fineByTags(m)
	seen[want]++
	if got := relabel.Fine(m); got != want {
		t.Fatalf("Fine(%v) = %v", m, got)
	}
}

func TestFineOfOneAndTwoNumbers(t *testing.T) {
	seen := map[bool]int{}
	for x := range uint8(16) {
		for to := range 256 {
			checkFine(t, seen, with([2]uint8{x, uint8(to)}))
			checkFine(t, seen, allBut(x, uint8(to)))
		}
		for y := range uint8(16) {
			for _, to := range []uint8{0, 1, 2, 7, 8, 14, 15, 16, 17, 32, 128, 255, x, y} {
				for and := range uint8(18) {
					checkFine(t, seen, with([2]uint8{x, to}, [2]uint8{y, and}))
				}
			}
		}
	}
	if seen[true] < 1000 || seen[false] < 1000 {
		t.Fatalf("maps that are valid, and that are not: %v", seen)
	}
}

// allBut is the map that assigns 4 to every tag, but for one.
func allBut(t, to uint8) api.Map {
	m := allTo(4)
	m[t] = to
	return m
}

func TestFineTagByTag(t *testing.T) {
	seen := map[bool]int{}
	next := mixed()
	for _, m := range validMaps() {
		checkFine(t, seen, m)
		for range 100 {
			broken := m
			broken[next(16)] = uint8(next(18))
			checkFine(t, seen, broken)
		}
	}
	// All maps of four tags and of one number that is none.
	numbers := []uint8{0, 6, 9, 15, 16}
	for n := range 625 {
		checkFine(t, seen, with([2]uint8{0, numbers[n%5]}, [2]uint8{6, numbers[n/5%5]}, [2]uint8{9, numbers[n/25%5]}, [2]uint8{15, numbers[n/125]}))
	}
	if seen[true] < 1000 || seen[false] < 1000 {
		t.Fatalf("maps that are valid, and that are not: %v", seen)
	}
}

func TestSet(t *testing.T) {
	cases := []struct {
		m    api.Map
		s    uint16
		want uint16
	}{
		// The chapter's example: 5 replaces 2, and the set 1,2.
		{with([2]uint8{2, 5}), 6, 34},
		{with([2]uint8{2, 5}), 0, 0},
		{with([2]uint8{2, 5}), 4, 32},
		{with([2]uint8{2, 5}), 32, 32},
		{with([2]uint8{2, 5}), 36, 32},
		{with([2]uint8{2, 5}), 2, 2},
		{with([2]uint8{2, 5}), all, all - 4},
		{with([2]uint8{5, 2}), 36, 4},
		{with([2]uint8{5, 2}), 34, 6},
		{with([2]uint8{15, 0}), 32768, 1},
		{with([2]uint8{0, 15}), 3, 32770},
		{with([2]uint8{2, 5}, [2]uint8{3, 5}, [2]uint8{4, 1}), 28, 34},
		{identity, 0, 0},
		{identity, 32769, 32769},
		{identity, all, all},
		{allTo(0), 0, 0},
		{allTo(0), 32768, 1},
		{allTo(15), all, 32768},
	}
	for _, c := range cases {
		if got := relabel.Set(c.m, c.s); got != c.want {
			t.Errorf("Set(%v, %d) = %d, want %d", c.m, c.s, got, c.want)
		}
	}
}

func TestSetTagByTag(t *testing.T) {
	check := func(m api.Map, s uint16) {
		if got, want := relabel.Set(m, s), imageByTags(m, s); got != want {
			t.Fatalf("Set(%v, %d) = %d, want %d", m, s, got, want)
		}
	}
	for _, m := range plainMaps()[:7] {
		for s := range 65536 {
			check(m, uint16(s))
		}
	}
	eachLabel(func(m api.Map, a api.Label) { check(m, a.S) })
}

func TestLabel(t *testing.T) {
	m := with([2]uint8{2, 5}, [2]uint8{15, 0})
	cases := []struct{ a, want api.Label }{
		{api.Label{S: 6, I: 6}, api.Label{S: 34, I: 34}},
		{api.Label{S: 6}, api.Label{S: 34}},
		{api.Label{I: 6}, api.Label{I: 34}},
		{api.Label{S: 4, I: 32768}, api.Label{S: 32, I: 1}},
		{api.Label{S: 32768, I: 4}, api.Label{S: 1, I: 32}},
		{api.Label{S: 1, I: 2}, api.Label{S: 1, I: 2}},
		{api.Label{}, api.Label{}},
		{api.Label{I: all}, api.Label{I: 32763}},
		{api.Label{S: all}, api.Label{S: 32763}},
	}
	for _, c := range cases {
		if got := relabel.Label(m, c.a); got != c.want {
			t.Errorf("Label(%v, %v) = %v, want %v", m, c.a, got, c.want)
		}
	}
	eachLabel(func(m api.Map, a api.Label) {
		if got, want := relabel.Label(m, a), labelByTags(m, a); got != want {
			t.Fatalf("Label(%v, %v) = %v, want %v", m, a, got, want)
		}
	})
}

func TestMoved(t *testing.T) {
	cases := []struct {
		m    api.Map
		want uint16
	}{
		{identity, 0},
		{with([2]uint8{2, 5}), 4},
		{with([2]uint8{5, 2}), 32},
		{with([2]uint8{2, 5}, [2]uint8{3, 5}), 12},
		{with([2]uint8{0, 15}), 1},
		{with([2]uint8{15, 0}), 32768},
		{allTo(0), all - 1},
		{allTo(7), all - 128},
		{allTo(15), 32767},
	}
	for _, c := range cases {
		if got := relabel.Moved(c.m); got != c.want {
			t.Errorf("Moved(%v) = %d, want %d", c.m, got, c.want)
		}
	}
	for _, m := range validMaps() {
		if got, want := relabel.Moved(m), movedByTags(m); got != want {
			t.Fatalf("Moved(%v) = %d, want %d", m, got, want)
		}
	}
}

func TestTouches(t *testing.T) {
	m := with([2]uint8{2, 5}, [2]uint8{15, 0})
	cases := []struct {
		a    api.Label
		want bool
	}{
		{api.Label{}, false},
		{api.Label{S: 4}, true},
		{api.Label{I: 4}, true},
		{api.Label{S: 32768}, true},
		{api.Label{I: 32768}, true},
		{api.Label{S: 4, I: 4}, true},
		{api.Label{S: 4, I: 32768}, true},
		{api.Label{S: 6, I: 1}, true},
		{api.Label{S: 1, I: 6}, true},
		{api.Label{S: all}, true},
		{api.Label{I: all}, true},
		// Tags that replace others are not moved.
		{api.Label{S: 33, I: 33}, false},
		{api.Label{S: 32763, I: 32763}, false},
	}
	for _, c := range cases {
		if got := relabel.Touches(m, c.a); got != c.want {
			t.Errorf("Touches(%v, %v) = %v", m, c.a, got)
		}
		if relabel.Touches(identity, c.a) {
			t.Errorf("the map that moves no tag touches %v", c.a)
		}
	}
}

func TestTouchesTagByTag(t *testing.T) {
	seen := map[bool]int{}
	eachLabel(func(m api.Map, a api.Label) {
		want := false
		for x := range 16 {
			want = want || int(m[x]) != x && (hasTag(a.S, x) || hasTag(a.I, x))
		}
		seen[want]++
		if got := relabel.Touches(m, a); got != want {
			t.Fatalf("Touches(%v, %v) = %v", m, a, got)
		}
	})
	if seen[true] < 1000 || seen[false] < 1000 {
		t.Fatalf("labels that are touched, and that are not: %v", seen)
	}
}

// P4.2: Move.

func TestMove(t *testing.T) {
	two := with([2]uint8{2, 5})
	cases := []struct {
		m        api.Map
		from, to int
		want     api.Map
	}{
		// The chapter's example.
		{identity, 2, 5, two},
		{identity, 5, 2, with([2]uint8{5, 2})},
		{identity, 0, 15, with([2]uint8{0, 15})},
		{identity, 15, 0, with([2]uint8{15, 0})},
		// A second tag into the same place, and into another one.
		{two, 3, 5, with([2]uint8{2, 5}, [2]uint8{3, 5})},
		{two, 3, 4, with([2]uint8{2, 5}, [2]uint8{3, 4})},
		// What from replaced is replaced by to, all of it, before it and behind it.
		{two, 5, 7, with([2]uint8{2, 7}, [2]uint8{5, 7})},
		{two, 5, 1, with([2]uint8{2, 1}, [2]uint8{5, 1})},
		{with([2]uint8{2, 5}, [2]uint8{9, 5}, [2]uint8{3, 8}), 5, 0, with([2]uint8{2, 0}, [2]uint8{5, 0}, [2]uint8{9, 0}, [2]uint8{3, 8})},
		// What to replaces already stays.
		{two, 7, 5, with([2]uint8{2, 5}, [2]uint8{7, 5})},
		{with([2]uint8{2, 5}, [2]uint8{3, 8}), 5, 8, with([2]uint8{2, 8}, [2]uint8{3, 8}, [2]uint8{5, 8})},
		{with([2]uint8{0, 1}), 1, 15, with([2]uint8{0, 15}, [2]uint8{1, 15})},
	}
	for _, c := range cases {
		got, e := relabel.Move(c.m, c.from, c.to)
		if got != c.want || e != api.OK {
			t.Errorf("Move(%v, %d, %d) = %v, %v", c.m, c.from, c.to, got, e)
		}
	}
}

// rejectMove checks that a move is rejected, and that nothing is answered beside the error.
func rejectMove(t *testing.T, m api.Map, from, to int) {
	if got, e := relabel.Move(m, from, to); got != (api.Map{}) || e != api.ErrRange {
		t.Errorf("Move(%v, %d, %d) = %v, %v", m, from, to, got, e)
	}
}

func TestMoveOfNoTags(t *testing.T) {
	for _, m := range []api.Map{identity, with([2]uint8{2, 5}), allTo(0), allTo(15)} {
		for _, n := range notTags {
			for x := range 16 {
				rejectMove(t, m, n, x)
				rejectMove(t, m, x, n)
			}
			for _, other := range notTags {
				rejectMove(t, m, n, other)
			}
		}
	}
}

func TestMoveOfEqualTags(t *testing.T) {
	for _, m := range validMaps() {
		for x := range 16 {
			rejectMove(t, m, x, x)
		}
	}
}

func TestMoveOfMovedTags(t *testing.T) {
	two := with([2]uint8{2, 5})
	for x := range 16 {
		rejectMove(t, two, 2, x)
		rejectMove(t, two, x, 2)
	}
	rejectMove(t, allTo(0), 1, 2)
	rejectMove(t, allTo(0), 0, 1)
	rejectMove(t, allTo(0), 1, 0)
	rejectMove(t, with([2]uint8{2, 5}, [2]uint8{3, 7}), 2, 3)
	rejectMove(t, with([2]uint8{2, 5}, [2]uint8{3, 5}), 3, 2)
}

func TestMoveTagByTag(t *testing.T) {
	seen := map[api.Errno]int{}
	for _, m := range validMaps() {
		for from := range 16 {
			for to := range 16 {
				want, wantErr := api.Map{}, api.ErrRange
				if from != to && int(m[from]) == from && int(m[to]) == to {
					want, wantErr = movedTo(m, from, to), api.OK
				}
				seen[wantErr]++
				if got, e := relabel.Move(m, from, to); got != want || e != wantErr {
					t.Fatalf("Move(%v, %d, %d) = %v, %v, want %v, %v", m, from, to, got, e, want, wantErr)
				}
			}
		}
	}
	if seen[api.OK] < 1000 || seen[api.ErrRange] < 1000 {
		t.Fatalf("answers: %v", seen)
	}
}

// movedTo is a map changed by the words of the chapter: to replaces from and every tag that from replaced.
func movedTo(m api.Map, from, to int) api.Map {
	for t := range 16 {
		if int(m[t]) == from {
			m[t] = uint8(to)
		}
	}
	return m
}

// A map that is moved stays valid, moves one tag more, and maps as the first map did and the move behind it.
func TestMoveOfValidMapsIsValid(t *testing.T) {
	for _, m := range validMaps() {
		for from := range 16 {
			to := (from*7 + 3) % 16
			got, e := relabel.Move(m, from, to)
			if e != api.OK {
				continue
			}
			if !relabel.Fine(got) || relabel.Moved(got) != movedByTags(m)+1<<from {
				t.Fatalf("Move(%v, %d, %d) = %v", m, from, to, got)
			}
		}
	}
}

func TestMovesOneAfterTheOther(t *testing.T) {
	m := relabel.Same()
	for from := range 15 {
		var e api.Errno
		if m, e = relabel.Move(m, from, from+1); e != api.OK {
			t.Fatalf("Move of %d: %v", from, e)
		}
		rejectMove(t, m, from, 15)
		rejectMove(t, m, 15, from)
	}
	if m != allTo(15) {
		t.Fatal(m)
	}
}

func TestMoveLeavesItsArgument(t *testing.T) {
	m := with([2]uint8{2, 5})
	got, e := relabel.Move(m, 5, 7)
	if m != with([2]uint8{2, 5}) || e != api.OK {
		t.Fatal(m, e)
	}
	m[2] = 9
	if got != with([2]uint8{2, 7}, [2]uint8{5, 7}) {
		t.Fatal(got)
	}
}

// P4.3: Then.

func TestThen(t *testing.T) {
	cases := []struct{ a, b, want api.Map }{
		{identity, identity, identity},
		{with([2]uint8{2, 5}), identity, with([2]uint8{2, 5})},
		{identity, with([2]uint8{2, 5}), with([2]uint8{2, 5})},
		{with([2]uint8{2, 5}), with([2]uint8{2, 5}), with([2]uint8{2, 5})},
		// By a first, and then by b: not the other way round.
		{with([2]uint8{2, 5}), with([2]uint8{5, 7}), with([2]uint8{2, 7}, [2]uint8{5, 7})},
		{with([2]uint8{5, 7}), with([2]uint8{2, 5}), with([2]uint8{2, 5}, [2]uint8{5, 7})},
		{with([2]uint8{2, 5}), with([2]uint8{2, 7}), with([2]uint8{2, 5})},
		{with([2]uint8{2, 7}), with([2]uint8{2, 5}), with([2]uint8{2, 7})},
		// Back again: 2 becomes 5 and then 2, and so does 5.
		{with([2]uint8{2, 5}), with([2]uint8{5, 2}), with([2]uint8{5, 2})},
		{with([2]uint8{15, 0}), with([2]uint8{0, 15}), with([2]uint8{0, 15})},
		{with([2]uint8{2, 5}), with([2]uint8{3, 5}), with([2]uint8{2, 5}, [2]uint8{3, 5})},
		{allTo(0), with([2]uint8{0, 15}), allTo(15)},
		{with([2]uint8{0, 15}), allTo(0), allTo(0)},
		{allTo(3), allTo(9), allTo(9)},
	}
	for _, c := range cases {
		if got := relabel.Then(c.a, c.b); got != c.want {
			t.Errorf("Then(%v, %v) = %v, want %v", c.a, c.b, got, c.want)
		}
	}
}

func TestThenTagByTag(t *testing.T) {
	eachTwo(func(a, b api.Map) {
		got := relabel.Then(a, b)
		for x := range 16 {
			if got[x] != b[a[x]] {
				t.Fatalf("Then(%v, %v) = %v", a, b, got)
			}
		}
	})
}

// A map is one after itself, and with the map that moves no tag on either side.
func TestThenOfOneMap(t *testing.T) {
	for _, m := range validMaps() {
		if relabel.Then(m, m) != m || relabel.Then(relabel.Same(), m) != m || relabel.Then(m, relabel.Same()) != m {
			t.Fatalf("%v", m)
		}
	}
}

func TestMoveIsThenOfOneMove(t *testing.T) {
	m := with([2]uint8{2, 5}, [2]uint8{3, 8})
	got, e := relabel.Move(m, 5, 8)
	one, oneErr := relabel.Move(relabel.Same(), 5, 8)
	if e != api.OK || oneErr != api.OK || got != relabel.Then(m, one) {
		t.Fatal(got, e, one, oneErr)
	}
}

// Then may return a map that is not valid: 3 is replaced by 2, and 2 by 5. Each tag of a set is replaced once.
func TestImagesUnderWhatThenReturns(t *testing.T) {
	m := relabel.Then(with([2]uint8{2, 5}), with([2]uint8{3, 2}))
	if m != with([2]uint8{2, 5}, [2]uint8{3, 2}) || relabel.Fine(m) {
		t.Fatal(m)
	}
	cases := []struct{ s, want uint16 }{{8, 4}, {4, 32}, {12, 36}, {44, 36}, {0, 0}, {1, 1}}
	for _, c := range cases {
		if got := relabel.Set(m, c.s); got != c.want {
			t.Errorf("Set(%v, %d) = %d, want %d", m, c.s, got, c.want)
		}
		if got, want := relabel.Label(m, api.Label{S: c.s, I: 8}), (api.Label{S: c.want, I: 4}); got != want {
			t.Errorf("Label(%v, %d and 8) = %v, want %v", m, c.s, got, want)
		}
	}
	invalid := 0
	next := mixed()
	eachTwo(func(a, b api.Map) {
		both := relabel.Then(a, b)
		if relabel.Fine(both) {
			return
		}
		invalid++
		l := api.Label{S: uint16(next(65536)), I: uint16(next(65536))}
		if got, want := relabel.Label(both, l), labelByTags(both, l); got != want {
			t.Fatalf("Label(%v, %v) = %v, want %v", both, l, got, want)
		}
	})
	if invalid < 1000 {
		t.Fatalf("maps that are not valid: %d", invalid)
	}
}

// P4.4: flows of images; an image contains no moved tags, and is its own image.

func TestImagesFlow(t *testing.T) {
	flows := 0
	next := mixed()
	eachLabel(func(m api.Map, a api.Label) {
		for _, b := range []api.Label{
			a,
			{S: a.S | uint16(next(65536)), I: a.I & uint16(next(65536))},
			{S: a.S | 1<<next(16), I: a.I},
			{S: a.S, I: a.I &^ (1 << next(16))},
		} {
			if !flowsByTags(a, b) {
				t.Fatalf("%v and %v", a, b)
			}
			if a != b {
				flows++
			}
			if !flowsByTags(relabel.Label(m, a), relabel.Label(m, b)) {
				t.Fatalf("%v flows into %v, but not their images under %v", a, b, m)
			}
		}
	})
	if flows < 1000 {
		t.Fatalf("labels that flow into others: %d", flows)
	}
}

func TestImageHasNoMovedTags(t *testing.T) {
	changed := 0
	eachLabel(func(m api.Map, a api.Label) {
		image := relabel.Label(m, a)
		if moved := relabel.Moved(m); image.S&moved != 0 || image.I&moved != 0 || relabel.Touches(m, image) {
			t.Fatalf("the image of %v under %v has moved tags: %v", a, m, image)
		}
		if got := relabel.Label(m, image); got != image {
			t.Fatalf("the image of the image of %v under %v is %v", a, m, got)
		}
		if relabel.Touches(m, a) != (image != a) {
			t.Fatalf("%v under %v becomes %v", a, m, image)
		}
		if got := relabel.Set(m, image.S); got != image.S {
			t.Fatalf("the image of the image of %d under %v is %d", a.S, m, got)
		}
		if image != a {
			changed++
		}
	})
	if changed < 1000 {
		t.Fatalf("labels that changed: %d", changed)
	}
}

// P4.5: the image under Then is the image of the image.

func TestImageUnderThen(t *testing.T) {
	next := mixed()
	eachTwo(func(a, b api.Map) {
		both := relabel.Then(a, b)
		for _, l := range []api.Label{
			{S: uint16(next(65536)), I: uint16(next(65536))},
			{S: 1 << next(16), I: 1 << next(16)},
			{S: all, I: 0},
		} {
			if got, want := relabel.Label(both, l), relabel.Label(b, relabel.Label(a, l)); got != want {
				t.Fatalf("the image of %v under %v, then %v is %v, want %v", l, a, b, got, want)
			}
			if got, want := relabel.Set(both, l.S), relabel.Set(b, relabel.Set(a, l.S)); got != want {
				t.Fatalf("the image of %d under %v, then %v is %d, want %d", l.S, a, b, got, want)
			}
		}
	})
}

// Of a map that is not valid nothing is promised, but that no call panics and that each one ends.
func TestInvalidMapsDoNotPanic(t *testing.T) {
	invalid := []api.Map{
		allTo(16), allTo(255), with([2]uint8{2, 16}), with([2]uint8{2, 5}, [2]uint8{5, 2}), with([2]uint8{2, 5}, [2]uint8{5, 255}),
		{255, 254, 128, 64, 32, 31, 30, 29, 28, 27, 26, 25, 24, 23, 22, 21},
	}
	for _, m := range invalid {
		relabel.Set(m, all)
		relabel.Label(m, api.Label{S: all, I: all})
		relabel.Moved(m)
		relabel.Touches(m, api.Label{S: all, I: all})
		relabel.Then(m, identity)
		relabel.Then(identity, m)
		relabel.Then(m, m)
		for from := -1; from < 18; from++ {
			for to := -1; to < 18; to++ {
				relabel.Move(m, from, to)
			}
		}
	}
}
