package graph_test

import (
	"testing"

	"forepeak/graph"
)

// The signatures are those of the chapter.
var (
	_ func(g [16]uint16, from, within uint16) uint16 = graph.Down
	_ func(g [16]uint16, to, within uint16) uint16   = graph.Up
	_ func(g [16]uint16) [16]uint16                  = graph.Turn
	_ func(g [16]uint16, within uint16) [16]uint16   = graph.Cut
)

const all = 65535

// empty is the graph without edges.
var empty [16]uint16

// four are roles of which all graphs are tried, at the ends of their range and between; others are the roles beside them.
var four = [4]int{0, 6, 9, 15}

const others = all - 1 - 64 - 512 - 32768

// set is the set of some roles, without any function of the program.
func set(roles ...int) uint16 {
	var s uint16
	for _, r := range roles {
		s |= 1 << r
	}
	return s
}

// has tells whether a role is in a set, without any function of the program.
func has(s uint16, r int) bool { return s>>r&1 == 1 }

// inside tells whether all roles of a are in b, without any function of the program.
func inside(a, b uint16) bool {
	for r := range 16 {
		if has(a, r) && !has(b, r) {
			return false
		}
	}
	return true
}

// edge is a pair of roles: the first one acts directly for the second one.
type edge [2]int

// graphOf is the graph of some edges.
func graphOf(edges ...edge) [16]uint16 {
	var g [16]uint16
	for _, e := range edges {
		g[e[0]] |= 1 << e[1]
	}
	return g
}

// graphBy is the graph of the edges that f picks.
func graphBy(f func(a, b int) bool) [16]uint16 {
	var g [16]uint16
	for a := range 16 {
		for b := range 16 {
			if f(a, b) {
				g[a] |= 1 << b
			}
		}
	}
	return g
}

// chain is the graph in which each role acts directly for the next one, and the last one for none.
func chain() [16]uint16 { return graphBy(func(a, b int) bool { return b == a+1 }) }

// ring is a chain whose last role acts directly for the first one.
func ring() [16]uint16 { return graphBy(func(a, b int) bool { return b == (a+1)%16 }) }

// loops is the graph in which each role acts directly for itself, and for no other one.
func loops() [16]uint16 { return graphBy(func(a, b int) bool { return a == b }) }

// complete is the graph with all edges.
func complete() [16]uint16 { return graphBy(func(a, b int) bool { return true }) }

// reversed is Turn by the words of the chapter, edge by edge.
func reversed(g [16]uint16) [16]uint16 {
	return graphBy(func(a, b int) bool { return has(g[b], a) })
}

// kept is Cut by the words of the chapter, edge by edge.
func kept(g [16]uint16, within uint16) [16]uint16 {
	return graphBy(func(a, b int) bool { return has(g[a], b) && has(within, a) && has(within, b) })
}

// pairs tells who acts for whom: whether there is a path from the first role to the second one.
type pairs [16][16]bool

// pairsOf are the pairs within a set, by the definition: paths of one role, of one edge, and two paths behind each other.
func pairsOf(g [16]uint16, within uint16) pairs {
	var p pairs
	for a := range 16 {
		for b := range 16 {
			p[a][b] = has(within, a) && has(within, b) && (a == b || has(g[a], b))
		}
	}
	for mid := range 16 {
		for a := range 16 {
			for b := range 16 {
				p[a][b] = p[a][b] || p[a][mid] && p[mid][b]
			}
		}
	}
	return p
}

// down are the roles for which some act.
func (p *pairs) down(from uint16) uint16 {
	var s uint16
	for a := range 16 {
		for b := range 16 {
			if has(from, a) && p[a][b] {
				s |= 1 << b
			}
		}
	}
	return s
}

// up are the roles that act for some.
func (p *pairs) up(to uint16) uint16 {
	var s uint16
	for a := range 16 {
		for b := range 16 {
			if has(to, b) && p[a][b] {
				s |= 1 << a
			}
		}
	}
	return s
}

// mixed returns a source of numbers that look like any, the same ones in each run.
func mixed() func(below int) int {
	x := uint64(1)
	return func(below int) int {
		x = x*6364136223846793005 + 1442695040888963407
		return int(x>>33) % below
	}
}

// sampleGraphs are graphs of every shape: those above, and mixed ones with few edges and with many.
func sampleGraphs() [][16]uint16 {
	l := [][16]uint16{
		empty, chain(), reversed(chain()), ring(), reversed(ring()), loops(), complete(),
		graphBy(func(a, b int) bool { return a < b }),
		graphBy(func(a, b int) bool { return a != b }),
		graphBy(func(a, b int) bool { return a == 7 }),
		graphBy(func(a, b int) bool { return b == 7 }),
		graphBy(func(a, b int) bool { return a/4 == b/4 }),
		graphBy(func(a, b int) bool { return b == (a+5)%16 || b == (a+8)%16 }),
		graphOf(edge{1, 2}, edge{2, 3}),
	}
	next := mixed()
	for _, one := range []int{2, 3, 4, 6, 8, 12, 16, 24, 40} {
		for range 12 {
			l = append(l, graphBy(func(a, b int) bool { return next(one) == 0 }))
		}
	}
	return l
}

// sampleSets are sets at the ends of their range, those of one role, those without one, and mixed ones.
func sampleSets() []uint16 {
	l := []uint16{0, 2, 14, 10, 255, 21845, 43690, others, all}
	for r := range 16 {
		l = append(l, 1<<r, all-1<<r)
	}
	next := mixed()
	for range 20 {
		l = append(l, uint16(next(65536)))
	}
	return l
}

// eachSample calls f with all sample graphs and pairs of sample sets.
func eachSample(f func(g [16]uint16, s, within uint16)) {
	sets := sampleSets()
	for _, g := range sampleGraphs() {
		for _, within := range sets {
			for _, s := range sets {
				f(g, s, within)
			}
		}
	}
}

// fourSets are all sets of the four roles.
func fourSets() []uint16 {
	l := []uint16{0}
	for _, r := range four {
		for _, s := range l {
			l = append(l, s|1<<r)
		}
	}
	return l
}

// P11.1: Down, Up.

func TestExampleOfTheChapter(t *testing.T) {
	g := graphOf(edge{1, 2}, edge{2, 3})
	if got := graph.Down(g, set(1), set(1, 2, 3)); got != set(1, 2, 3) {
		t.Errorf("within 1, 2, 3: %d", got)
	}
	if got := graph.Down(g, set(1), set(1, 3)); got != set(1) {
		t.Errorf("within 1, 3: %d", got)
	}
	if got := graph.Up(g, set(3), set(1, 2, 3)); got != set(1, 2, 3) {
		t.Errorf("up, within 1, 2, 3: %d", got)
	}
	if got := graph.Up(g, set(3), set(1, 3)); got != set(3) {
		t.Errorf("up, within 1, 3: %d", got)
	}
}

func TestDownAndUp(t *testing.T) {
	cases := []struct {
		name      string
		g         [16]uint16
		s, within uint16
		down, up  uint16
	}{
		{"no edges", empty, set(3), all, set(3), set(3)},
		{"no edges, all roles", empty, all, all, all, all},
		{"all edges", complete(), set(3), all, all, all},
		{"all edges, in a set", complete(), set(3), set(0, 3, 15), set(0, 3, 15), set(0, 3, 15)},
		{"loops", loops(), set(0, 15), all, set(0, 15), set(0, 15)},
		{"loops, outside", loops(), set(5), set(4), 0, 0},
		{"chain, first", chain(), set(0), all, all, set(0)},
		{"chain, last", chain(), set(15), all, set(15), all},
		{"chain, middle", chain(), set(7), all, all - 127, 255},
		{"chain, two", chain(), set(4, 12), all, all - 15, 8191},
		{"chain, without one of it", chain(), set(5), all - 1<<9, set(5, 6, 7, 8), set(0, 1, 2, 3, 4, 5)},
		{"ring", ring(), set(9), all, all, all},
		{"ring, over its end", ring(), set(14), set(13, 14, 15, 0, 1, 3), set(14, 15, 0, 1), set(13, 14)},
		{"no roles", complete(), 0, all, 0, 0},
		{"no roles in none", complete(), 0, 0, 0, 0},
		{"in no set", complete(), all, 0, 0, 0},
		{"wholly outside", complete(), set(1, 2), set(3, 4), 0, 0},
		{"partly outside", graphOf(edge{1, 5}, edge{2, 6}, edge{5, 1}, edge{6, 2}), set(1, 2), set(2, 5, 6), set(2, 6), set(2, 6)},
		// What is outside of the set is on no path, also where it stands between roles of the set, and where a path begins or ends.
		{"over an outsider", graphOf(edge{1, 2}, edge{2, 3}), set(1, 3), set(1, 3), set(1, 3), set(1, 3)},
		{"from an outsider", graphOf(edge{1, 2}, edge{2, 3}), set(1), set(2, 3), 0, 0},
		{"to an outsider", graphOf(edge{1, 2}, edge{2, 3}), set(3), set(1, 2), 0, 0},
		{"round an outsider", graphOf(edge{1, 2}, edge{2, 3}, edge{1, 4}, edge{4, 3}), set(1), set(1, 3, 4), set(1, 3, 4), set(1)},
		{"two ways", graphOf(edge{0, 1}, edge{0, 2}, edge{1, 3}, edge{2, 3}, edge{3, 4}), set(0), all, set(0, 1, 2, 3, 4), set(0)},
		{"two roles at one", graphOf(edge{8, 0}, edge{15, 0}), set(0), all, set(0), set(0, 8, 15)},
		{"a ring behind a chain", graphOf(edge{9, 4}, edge{4, 2}, edge{2, 11}, edge{11, 4}), set(9), all, set(2, 4, 9, 11), set(9)},
		{"into a ring", graphOf(edge{9, 4}, edge{4, 2}, edge{2, 11}, edge{11, 4}), set(2), all, set(2, 4, 11), set(2, 4, 9, 11)},
	}
	for _, c := range cases {
		if got := graph.Down(c.g, c.s, c.within); got != c.down {
			t.Errorf("%s: Down is %d, want %d", c.name, got, c.down)
		}
		if got := graph.Up(c.g, c.s, c.within); got != c.up {
			t.Errorf("%s: Up is %d, want %d", c.name, got, c.up)
		}
	}
}

func TestChainWithinEachSet(t *testing.T) {
	for n := range 1 << 16 {
		within := uint16(n)
		for r := range 16 {
			var down, up uint16
			for to := r; to < 16 && has(within, to); to++ {
				down |= 1 << to
			}
			for by := r; by >= 0 && has(within, by); by-- {
				up |= 1 << by
			}
			if got := graph.Down(chain(), 1<<r, within); got != down {
				t.Fatalf("Down of %d within %d is %d, want %d", r, within, got, down)
			}
			if got := graph.Up(chain(), 1<<r, within); got != up {
				t.Fatalf("Up of %d within %d is %d, want %d", r, within, got, up)
			}
		}
	}
}

// Without edges, and with loops alone, a role acts for itself, if it is in the set, and for no other one.
func TestEachRoleOfASetActsForItself(t *testing.T) {
	for n := range 1 << 16 {
		within := uint16(n)
		for _, g := range [][16]uint16{empty, loops()} {
			for r := range 16 {
				var want uint16
				if has(within, r) {
					want = 1 << r
				}
				if down, up := graph.Down(g, 1<<r, within), graph.Up(g, 1<<r, within); down != want || up != want {
					t.Fatalf("role %d within %d: %d and %d, want %d", r, within, down, up, want)
				}
			}
		}
	}
	eachSample(func(g [16]uint16, s, within uint16) {
		for r := range 16 {
			if own := has(s, r) && has(within, r); own && (!has(graph.Down(g, s, within), r) || !has(graph.Up(g, s, within), r)) {
				t.Fatalf("graph %v: role %d of %d within %d does not act for itself", g, r, s, within)
			}
		}
	})
}

// Within a set, the graph with all edges has all pairs of the set's roles.
func TestCompleteGraphWithinEachSet(t *testing.T) {
	g := complete()
	for n := range 1 << 16 {
		within := uint16(n)
		for _, s := range []uint16{0, 1, 384, 32768, 21845, all - within, within, all} {
			want := within
			if within&s == 0 {
				want = 0
			}
			if down, up := graph.Down(g, s, within), graph.Up(g, s, within); down != want || up != want {
				t.Fatalf("set %d within %d: %d and %d, want %d", s, within, down, up, want)
			}
		}
	}
}

// checkPairs holds Down and Up of some sets against the pairs of a graph.
func checkPairs(t *testing.T, g [16]uint16, within uint16, sets ...uint16) {
	p := pairsOf(g, within)
	for _, s := range sets {
		if got, want := graph.Down(g, s, within), p.down(s); got != want {
			t.Fatalf("Down(%v, %d, %d) = %d, want %d", g, s, within, got, want)
		}
		if got, want := graph.Up(g, s, within), p.up(s); got != want {
			t.Fatalf("Up(%v, %d, %d) = %d, want %d", g, s, within, got, want)
		}
	}
}

// All graphs of three roles within all sets of them, and all edges of the roles beside them.
func TestAllGraphsOfThreeRoles(t *testing.T) {
	for _, three := range [][3]int{{0, 1, 2}, {1, 7, 8}, {0, 8, 15}, {13, 14, 15}} {
		own := set(three[:]...)
		for bits := range 1 << 9 {
			g := graphBy(func(a, b int) bool { return !has(own, a) || !has(own, b) })
			for i := range 9 {
				if bits>>i&1 == 1 {
					g[three[i/3]] |= 1 << three[i%3]
				}
			}
			for n := range 8 {
				var within uint16
				for i, r := range three {
					within |= uint16(n>>i&1) << r
				}
				checkPairs(t, g, within, 0, 1<<three[0], 1<<three[1], 1<<three[2], 1<<three[0]|1<<three[2], own, all)
			}
		}
	}
}

// fourGraph is a graph of the four roles without loops: that with the bits of n, one for each edge.
func fourGraph(n int) [16]uint16 {
	var g [16]uint16
	for i, a := range four {
		for j, b := range four {
			if i != j {
				g[a] |= uint16(n&1) << b
				n >>= 1
			}
		}
	}
	return g
}

// All graphs of four roles, within all sets of them, and of all sets of them.
func TestAllGraphsOfFourRoles(t *testing.T) {
	sets := fourSets()
	for n := range 1 << 12 {
		for _, within := range sets {
			checkPairs(t, fourGraph(n), within, sets...)
		}
	}
}

func TestDownAndUpPathByPath(t *testing.T) {
	for _, g := range sampleGraphs() {
		for _, within := range sampleSets() {
			checkPairs(t, g, within, sampleSets()...)
		}
	}
}

// Up answers of each role what Down answers, asked from the other side, and of the reversed graph.
func TestUpIsDownOfTheReversedGraph(t *testing.T) {
	eachSample(func(g [16]uint16, s, within uint16) {
		up := graph.Up(g, s, within)
		if down := graph.Down(graph.Turn(g), s, within); up != down {
			t.Fatalf("Up(%v, %d, %d) = %d, but Down of the reversed graph is %d", g, s, within, up, down)
		}
		if down, back := graph.Down(g, s, within), graph.Up(graph.Turn(g), s, within); down != back {
			t.Fatalf("Down(%v, %d, %d) = %d, but Up of the reversed graph is %d", g, s, within, down, back)
		}
	})
	for _, g := range sampleGraphs() {
		for r := range 16 {
			for to := range 16 {
				if has(graph.Down(g, 1<<r, 32639), to) != has(graph.Up(g, 1<<to, 32639), r) {
					t.Fatalf("graph %v: whether %d acts for %d", g, r, to)
				}
			}
		}
	}
}

// P11.2: Turn, Cut.

func TestTurn(t *testing.T) {
	cases := []struct{ g, want [16]uint16 }{
		{empty, empty},
		{complete(), complete()},
		{loops(), loops()},
		{graphOf(edge{1, 2}, edge{2, 3}), [16]uint16{2: 2, 3: 4}},
		{graphOf(edge{0, 15}), [16]uint16{15: 1}},
		{graphOf(edge{15, 0}), [16]uint16{0: 32768}},
		{graphOf(edge{4, 4}, edge{4, 5}), [16]uint16{4: 16, 5: 16}},
		{graphOf(edge{4, 5}, edge{5, 4}), graphOf(edge{5, 4}, edge{4, 5})},
		{[16]uint16{7: all}, graphBy(func(a, b int) bool { return b == 7 })},
		{graphBy(func(a, b int) bool { return b == 7 }), [16]uint16{7: all}},
		{chain(), graphBy(func(a, b int) bool { return a == b+1 })},
		{ring(), graphBy(func(a, b int) bool { return a == (b+1)%16 })},
	}
	for _, c := range cases {
		if got := graph.Turn(c.g); got != c.want {
			t.Errorf("Turn(%v) = %v, want %v", c.g, got, c.want)
		}
	}
}

func TestTurnOfEachEdge(t *testing.T) {
	for a := range 16 {
		for b := range 16 {
			if got := graph.Turn(graphOf(edge{a, b})); got != graphOf(edge{b, a}) {
				t.Errorf("the edge from %d to %d: %v", a, b, got)
			}
		}
	}
}

func TestTurnEdgeByEdge(t *testing.T) {
	for _, g := range sampleGraphs() {
		got := graph.Turn(g)
		if want := reversed(g); got != want {
			t.Fatalf("Turn(%v) = %v, want %v", g, got, want)
		}
		if back := graph.Turn(got); back != g {
			t.Fatalf("%v, turned twice, is %v", g, back)
		}
	}
}

func TestCut(t *testing.T) {
	two := graphOf(edge{1, 2}, edge{2, 3})
	cases := []struct {
		g      [16]uint16
		within uint16
		want   [16]uint16
	}{
		{two, set(1, 2, 3), two},
		{two, set(1, 2), graphOf(edge{1, 2})},
		{two, set(2, 3), graphOf(edge{2, 3})},
		{two, set(1, 3), empty},
		{two, set(2), empty},
		{two, all - 4, empty},
		{two, 0, empty},
		{two, all, two},
		{empty, all, empty},
		{complete(), 0, empty},
		{complete(), all, complete()},
		{complete(), set(0, 15), graphOf(edge{0, 0}, edge{0, 15}, edge{15, 0}, edge{15, 15})},
		{loops(), set(4), graphOf(edge{4, 4})},
		{loops(), all - 1, graphBy(func(a, b int) bool { return a == b && a > 0 })},
		{chain(), 255, graphBy(func(a, b int) bool { return b == a+1 && b < 8 })},
		{ring(), all - 255, graphBy(func(a, b int) bool { return b == a+1 && a > 7 })},
	}
	for _, c := range cases {
		if got := graph.Cut(c.g, c.within); got != c.want {
			t.Errorf("Cut(%v, %d) = %v, want %v", c.g, c.within, got, c.want)
		}
	}
}

func TestCutEdgeByEdge(t *testing.T) {
	for _, g := range sampleGraphs() {
		for _, within := range sampleSets() {
			if got, want := graph.Cut(g, within), kept(g, within); got != want {
				t.Fatalf("Cut(%v, %d) = %v, want %v", g, within, got, want)
			}
		}
		if got := graph.Cut(g, 0); got != empty {
			t.Fatalf("Cut(%v) by the empty set is %v", g, got)
		}
		if got := graph.Cut(g, all); got != g {
			t.Fatalf("Cut(%v) by the full set is %v", g, got)
		}
	}
}

// Cut twice by one set is cut once; cut by two sets is cut by what they share.
func TestCutTwice(t *testing.T) {
	eachSample(func(g [16]uint16, s, within uint16) {
		once := graph.Cut(g, within)
		if got := graph.Cut(once, within); got != once {
			t.Fatalf("%v, cut twice by %d, is %v, not %v", g, within, got, once)
		}
		if got, want := graph.Cut(once, s), kept(g, s&within); got != want {
			t.Fatalf("%v, cut by %d and %d, is %v, want %v", g, within, s, got, want)
		}
	})
}

func TestTurnOfWhatIsCut(t *testing.T) {
	for _, g := range sampleGraphs() {
		for _, within := range sampleSets() {
			if got, want := graph.Turn(graph.Cut(g, within)), graph.Cut(graph.Turn(g), within); got != want {
				t.Fatalf("%v within %d: cut and turned %v, turned and cut %v", g, within, got, want)
			}
		}
	}
}

// P11.3: acting for is transitive.

func TestActingForIsTransitive(t *testing.T) {
	steps := 0
	for _, g := range sampleGraphs() {
		for _, within := range sampleSets() {
			var down [16]uint16
			for r := range 16 {
				down[r] = graph.Down(g, 1<<r, within)
			}
			for a := range 16 {
				for b := range 16 {
					if !has(down[a], b) {
						continue
					}
					steps++
					if !inside(down[b], down[a]) {
						t.Fatalf("graph %v within %d: %d acts for %d, but not for all for which that acts", g, within, a, b)
					}
				}
			}
		}
	}
	if steps < 100000 {
		t.Fatalf("pairs that act for one another: %d", steps)
	}
}

func TestWhatIsReachedReachesNoMore(t *testing.T) {
	eachSample(func(g [16]uint16, s, within uint16) {
		down := graph.Down(g, s, within)
		if got := graph.Down(g, down, within); got != down {
			t.Fatalf("graph %v within %d: from %d on %d, and from there %d", g, within, s, down, got)
		}
		up := graph.Up(g, s, within)
		if got := graph.Up(g, up, within); got != up {
			t.Fatalf("graph %v within %d: up from %d %d, and from there %d", g, within, s, up, got)
		}
	})
}

// P11.4: a smaller set never adds pairs, and edges outside of the set have no effect.

func TestASmallerSetAddsNoPairs(t *testing.T) {
	fewer := 0
	next := mixed()
	for _, g := range sampleGraphs() {
		for _, within := range sampleSets() {
			for _, less := range []uint16{0, within & uint16(next(65536)), within &^ (1 << next(16)), within} {
				for r := range 16 {
					down, up := graph.Down(g, 1<<r, within), graph.Up(g, 1<<r, within)
					lessDown, lessUp := graph.Down(g, 1<<r, less), graph.Up(g, 1<<r, less)
					if !inside(lessDown, down) || !inside(lessUp, up) {
						t.Fatalf("graph %v, role %d: within %d %d and %d, within %d %d and %d", g, r, within, down, up, less, lessDown, lessUp)
					}
					// Roles of the smaller set itself that are not reached any more: their paths left it.
					if down&less != lessDown {
						fewer++
					}
				}
			}
		}
	}
	if fewer < 1000 {
		t.Fatalf("roles that lost pairs by a path that leaves the set: %d", fewer)
	}
}

// Smaller sets of graphs of four roles: all sets, all roles.
func TestASmallerSetOfFourRolesAddsNoPairs(t *testing.T) {
	for n := range 1 << 12 {
		g := fourGraph(n)
		for _, within := range fourSets() {
			for _, r := range four {
				down, up := graph.Down(g, 1<<r, within), graph.Up(g, 1<<r, within)
				for _, out := range four {
					less := within &^ (1 << out)
					if !inside(graph.Down(g, 1<<r, less), down) || !inside(graph.Up(g, 1<<r, less), up) {
						t.Fatalf("graph %v, role %d: within %d and %d", g, r, within, less)
					}
				}
			}
		}
	}
}

// Edges of which one end, or both ends, are outside of the set may be there or not.
func TestEdgesOutsideHaveNoEffect(t *testing.T) {
	next := mixed()
	for _, g := range sampleGraphs() {
		for _, within := range sampleSets() {
			outside := func(a, b int) bool { return !has(within, a) || !has(within, b) }
			graphs := [][16]uint16{
				graph.Cut(g, within),
				graphBy(func(a, b int) bool { return has(g[a], b) || outside(a, b) }),
				graphBy(func(a, b int) bool { return has(g[a], b) || !has(within, a) }),
				graphBy(func(a, b int) bool { return has(g[a], b) || !has(within, b) }),
				graphBy(func(a, b int) bool { return has(g[a], b) != (outside(a, b) && next(2) == 0) }),
			}
			for _, s := range []uint16{0, 1 << next(16), 1 << next(16), uint16(next(65536)), within, all - within, all} {
				down, up := graph.Down(g, s, within), graph.Up(g, s, within)
				for _, h := range graphs {
					if gotDown, gotUp := graph.Down(h, s, within), graph.Up(h, s, within); gotDown != down || gotUp != up {
						t.Fatalf("set %d within %d: graph %v %d and %d, graph %v %d and %d", s, within, g, down, up, h, gotDown, gotUp)
					}
				}
			}
		}
	}
}

// The roles of from that are outside of the set have no effect either, and nothing outside is answered.
func TestRolesOutsideHaveNoEffect(t *testing.T) {
	eachSample(func(g [16]uint16, s, within uint16) {
		down, up := graph.Down(g, s, within), graph.Up(g, s, within)
		if !inside(down, within) || !inside(up, within) {
			t.Fatalf("graph %v, set %d within %d: %d and %d", g, s, within, down, up)
		}
		if gotDown, gotUp := graph.Down(g, s&within, within), graph.Up(g, s&within, within); gotDown != down || gotUp != up {
			t.Fatalf("graph %v, set %d within %d: %d and %d, want %d and %d", g, s&within, within, gotDown, gotUp, down, up)
		}
	})
}

// R4: the arguments are left as they were, and results are not changed with them.

func TestArgumentsAreLeft(t *testing.T) {
	for _, g := range sampleGraphs() {
		was := g
		graph.Down(g, 1, all)
		graph.Up(g, 32768, 21845)
		graph.Turn(g)
		graph.Cut(g, 21845)
		if g != was {
			t.Fatalf("%v became %v", was, g)
		}
		turned, cut := graph.Turn(g), graph.Cut(g, all)
		for r := range 16 {
			g[r] ^= all
		}
		if turned != reversed(was) || cut != was {
			t.Fatalf("the results of %v became %v and %v", was, turned, cut)
		}
	}
}

// The answers hang on the arguments alone, whatever is asked between.
func TestAnswersAreTheSameAgain(t *testing.T) {
	next := mixed()
	l := sampleGraphs()
	for range 20000 {
		g, s, within := l[next(len(l))], uint16(next(65536)), uint16(next(65536))
		down, up := graph.Down(g, s, within), graph.Up(g, s, within)
		graph.Down(l[next(len(l))], uint16(next(65536)), all)
		graph.Up(l[next(len(l))], uint16(next(65536)), all)
		if graph.Down(g, s, within) != down || graph.Up(g, s, within) != up {
			t.Fatalf("graph %v, set %d within %d", g, s, within)
		}
	}
}
