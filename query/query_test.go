package query_test

import (
	"fmt"
	"math"
	"slices"
	"strconv"
	"strings"
	"testing"

	"forepeak/api"
	"forepeak/label"
	"forepeak/parse"
	"forepeak/policy"
	"forepeak/query"
	"forepeak/typing"
)

// The signatures are those of the chapter.
var (
	_ func(p api.Policy, role int, l api.Label, q []api.Node) (api.Value, api.Errno) = query.Eval
	_ func(p api.Policy, role int, l api.Label, s string) (api.Value, api.Errno)     = query.Ask
	_ func(v api.Value) string                                                       = query.Text
)

const all = 65535

// The types of chapter 18.
const (
	roles  = 1
	tags   = 2
	number = 3
	truth  = 4
)

var (
	bottom = api.Label{S: 0, I: all}
	top    = api.Label{S: all, I: 0}
)

// noRoles are numbers that are no roles.
var noRoles = []int{math.MinInt, -65536, -17, -16, -1, 16, 17, 31, 32, 63, 64, 255, 256, 65535, 65536, 1 << 32, math.MaxInt}

// set is the set of some roles or tags.
func set(members ...int) uint16 {
	var s uint16
	for _, m := range members {
		s |= 1 << m
	}
	return s
}

// has tells whether a role or tag is in a set.
func has(s uint16, m int) bool { return s>>m&1 == 1 }

// flows tells whether a label flows into another one, tag by tag.
func flows(a, b api.Label) bool {
	for t := range 16 {
		if has(a.S, t) && !has(b.S, t) || has(b.I, t) && !has(a.I, t) {
			return false
		}
	}
	return true
}

// mixed returns a source of numbers that look like any, the same ones in each run.
func mixed() func(below int) int {
	x := uint64(1)
	return func(below int) int {
		x = x*6364136223846793005 + 1442695040888963407
		return int(x>>33) % below
	}
}

// arguments has the number of arguments by kind.
var arguments = [16]int{-1, 0, 0, 0, 0, 0, 1, 1, 1, 1, 1, 1, 2, 2, 2, 2}

// words are the kinds by their texts, but for roles and tags.
var words = []string{1: "all", 2: "live", 3: "mine", 6: "up", 7: "down", 8: "tags", 9: "owners", 10: "count", 11: "some", 12: "&", 13: "|", 14: "-", 15: "<="}

// node is the node of a text.
func node(text string) api.Node {
	if k := slices.Index(words, text); k > 0 {
		return api.Node{Kind: k}
	}
	n, err := strconv.Atoi(text[1:])
	if err != nil || text[0] != 'r' && text[0] != 't' {
		panic(text)
	}
	if text[0] == 'r' {
		return api.Node{Kind: 4, N: n}
	}
	return api.Node{Kind: 5, N: n}
}

// nodes are the nodes of texts in postfix order.
func nodes(texts string) []api.Node {
	var l []api.Node
	for _, s := range strings.Fields(texts) {
		l = append(l, node(s))
	}
	return l
}

// infix is a query with the nodes of a list, with all its parentheses.
func infix(q []api.Node) string {
	var stack []string
	for _, n := range q {
		k := len(stack) - arguments[n.Kind]
		s := ""
		switch {
		case n.Kind == 4:
			s = fmt.Sprint("r", n.N)
		case n.Kind == 5:
			s = fmt.Sprint("t", n.N)
		case arguments[n.Kind] == 0:
			s = words[n.Kind]
		case arguments[n.Kind] == 1:
			s = words[n.Kind] + " " + stack[k]
		default:
			s = "(" + stack[k] + words[n.Kind] + stack[k+1] + ")"
		}
		stack = append(stack[:k], s)
	}
	return stack[0]
}

// members are those of a set, one by one.
type members [16]bool

// of is the set of members.
func (m members) of() uint16 {
	var s uint16
	for i, in := range m {
		if in {
			s |= 1 << i
		}
	}
	return s
}

// model reckons values by the words of the chapter: on trees instead of a stack, member by member, and without any function of the program.
type model struct {
	p       api.Policy
	role    int
	visible members
	acts    [16]members // who acts for whom under the label
	join    api.Label
}

// modelOf is the model for a caller.
func modelOf(p api.Policy, role int, l api.Label) *model {
	m := &model{p: p, role: role, join: bottom}
	for r := range 16 {
		if m.visible[r] = has(p.Live, r) && flows(p.Labels[r], l); m.visible[r] {
			m.join.S |= p.Labels[r].S
			m.join.I &= p.Labels[r].I
		}
	}
	for a := range 16 {
		for b := range 16 {
			m.acts[a][b] = m.visible[a] && m.visible[b] && (a == b || has(p.Acts[a], b))
		}
	}
	for mid := range 16 {
		for a := range 16 {
			for b := range 16 {
				m.acts[a][b] = m.acts[a][b] || m.acts[a][mid] && m.acts[mid][b]
			}
		}
	}
	return m
}

// outcome is what a part of a query comes to.
type outcome struct {
	ty  int
	set members
	n   int
}

// part is what ends with node i comes to, and the index in front of it. The type is that of the kind, whatever the arguments are: lists without a type are none of its business.
func (m *model) part(q []api.Node, i int) (outcome, int) {
	k, n := q[i].Kind, q[i].N
	i--
	var a, b outcome
	if arguments[k] == 2 {
		b, i = m.part(q, i)
	}
	if arguments[k] >= 1 {
		a, i = m.part(q, i)
	}
	o := outcome{ty: a.ty}
	switch k {
	case 1, 3, 4, 6, 7, 9:
		o.ty = roles
	case 2, 5, 8:
		o.ty = tags
	case 10:
		o.ty = number
	case 11, 15:
		o.ty = truth
	}
	for x := range 16 {
		o.set[x] = m.member(k, n, x, a.set, b.set)
	}
	switch k {
	case 10:
		for _, in := range a.set {
			if in {
				o.n++
			}
		}
	case 11:
		if a.set != (members{}) {
			o.n = 1
		}
	case 15:
		o.n = 1
		for x := range 16 {
			if a.set[x] && !b.set[x] {
				o.n = 0
			}
		}
	}
	return o, i
}

// member tells whether x is in the set of a node with the arguments a and b.
func (m *model) member(kind, n, x int, a, b members) bool {
	owned := has(m.p.Active, x) && m.p.Owner[x] < 16
	switch kind {
	case 1:
		return m.visible[x]
	case 2:
		return has(m.p.Active, x)
	case 3:
		return x == m.role && m.visible[x]
	case 4:
		return x == n && m.visible[x]
	case 5:
		return x == n && has(m.p.Active, x)
	case 6:
		return m.some(func(y int) bool { return a[y] && m.acts[x][y] })
	case 7:
		return m.some(func(y int) bool { return a[y] && m.acts[y][x] })
	case 8:
		return owned && m.visible[m.p.Owner[x]] && a[m.p.Owner[x]]
	case 9:
		return m.visible[x] && m.some(func(y int) bool { return a[y] && has(m.p.Active, y) && int(m.p.Owner[y]) == x })
	case 12:
		return a[x] && b[x]
	case 13:
		return a[x] || b[x]
	case 14:
		return a[x] && !b[x]
	}
	return false
}

// some tells whether there is one of the sixteen.
func (m *model) some(is func(int) bool) bool {
	for y := range 16 {
		if is(y) {
			return true
		}
	}
	return false
}

// value is the value of nodes that have a type.
func (m *model) value(q []api.Node) api.Value {
	o, before := m.part(q, len(q)-1)
	if before != -1 {
		panic(q)
	}
	return api.Value{Type: o.ty, Set: o.set.of(), N: o.n, Label: m.join}
}

// check holds Eval against what is wanted, twice, and asks that the list and what is behind it stay as they are.
func check(t *testing.T, p api.Policy, role int, l api.Label, q []api.Node, v api.Value, err api.Errno) {
	t.Helper()
	room := append(slices.Clone(q), api.Node{Kind: 77, N: 78})
	for range 2 {
		got, e := query.Eval(p, role, l, room[:len(q)])
		if got != v || e != err {
			t.Fatalf("Eval(%v, %d, %v, %v) = %v, %v, want %v, %v", p, role, l, q, got, e, v, err)
		}
	}
	if !slices.Equal(room[:len(q)], q) || room[len(q)] != (api.Node{Kind: 77, N: 78}) {
		t.Fatalf("Eval(.., %v) left %v", q, room)
	}
}

// checkAsk holds Ask against what is wanted, twice.
func checkAsk(t *testing.T, p api.Policy, role int, l api.Label, s string, v api.Value, err api.Errno) {
	t.Helper()
	for range 2 {
		got, e := query.Ask(p, role, l, s)
		if got != v || e != err {
			t.Fatalf("Ask(%v, %d, %v, %q) = %v, %v, want %v, %v", p, role, l, s, got, e, v, err)
		}
	}
}

// nobody are the owners of tags that have none.
func nobody() [16]uint8 {
	var owner [16]uint8
	for t := range owner {
		owner[t] = 16
	}
	return owner
}

// The labels of small: all see what low sees, and nothing else is seen at bottom, where each of these has too little integrity.
var (
	low  = api.Label{S: 0, I: 0x0fff}         // sees 0, 1, 3
	mid  = api.Label{S: set(0), I: 0x0fff}    // sees 2 as well
	high = api.Label{S: set(0, 1), I: 0x00ff} // sees 4, 5 and 6 as well
)

// small is a policy with the roles 0 to 6 and the tags 0 to 11. Acting for: 1 for 2, 2 for 3, 4 for 1 and 5, 5 for 4 (a ring), 3 for nobody; 0 and 6 for each other. Role 2 is seen at mid and high alone, the roles 4, 5 and 6 at high alone.
func small() api.Policy {
	p := api.Policy{Live: set(0, 1, 2, 3, 4, 5, 6), Active: 0x0fff, Owner: nobody()}
	p.Labels[0] = api.Label{I: 0x0fff}
	p.Labels[1] = api.Label{I: 0x0fff}
	p.Labels[2] = api.Label{S: set(0), I: 0x0fff}
	p.Labels[3] = api.Label{I: 0x0fff}
	p.Labels[4] = api.Label{S: set(1), I: 0x0fff}
	p.Labels[5] = api.Label{S: set(0, 1), I: 0x0fff}
	p.Labels[6] = api.Label{I: 0x00ff}
	p.Acts[0] = set(6)
	p.Acts[1] = set(2)
	p.Acts[2] = set(3)
	p.Acts[4] = set(1, 5)
	p.Acts[5] = set(4)
	p.Acts[6] = set(0)
	for tag, owner := range []uint8{0, 1, 2, 3, 3, 4, 5, 16, 0, 2} { // 7, 10 and 11 have no owner
		p.Owner[tag] = owner
	}
	return p
}

// allLive is the policy in which all roles are live, each acts for the next one and owns its tag, and role r has the secrecies below r.
func allLive() api.Policy {
	p := api.Policy{Live: all, Active: all}
	for r := range 16 {
		p.Labels[r] = api.Label{S: 1<<r - 1, I: all}
		p.Acts[r] = 1 << ((r + 1) % 16)
		p.Owner[r] = uint8(r)
	}
	return p
}

// noLive is the policy without live roles in which some tags are in use.
func noLive(active uint16) api.Policy { return api.Policy{Active: active, Owner: nobody()} }

// mixedPolicy is a valid policy. Its labels have few secrecies and much integrity, so that many of them flow into one another.
func mixedPolicy(next func(below int) int) api.Policy {
	p := api.Policy{Live: uint16(next(65536) | next(65536)), Active: uint16(next(65536) | next(65536)), Owner: nobody()}
	if next(4) == 0 {
		p.Live = all
	}
	if next(3) == 0 {
		p.Active = all
	}
	edges := 1 + next(3)
	for r := range 16 {
		if !has(p.Live, r) {
			continue
		}
		p.Labels[r] = api.Label{S: p.Active & set(next(16)) & uint16(-next(2)), I: p.Active &^ (set(next(16)) & uint16(-next(2)))}
		for range edges {
			p.Acts[r] |= p.Live & set(next(16)) &^ set(r)
		}
	}
	for t := range 16 {
		if r := next(17); r < 16 && has(p.Active, t) && has(p.Live, r) {
			p.Owner[t] = uint8(r)
		}
	}
	return p
}

// samples are valid policies: with no, one, some and all roles live, with no, some and all tags in use, and mixed ones.
func samples() []api.Policy {
	one := api.Policy{Live: set(15), Active: set(15), Owner: nobody()}
	one.Labels[15] = api.Label{S: set(15), I: set(15)}
	one.Owner[15] = 15
	idle := noLive(0)
	idle.Live = set(0, 7)
	l := []api.Policy{policy.First(), small(), allLive(), noLive(0), noLive(all), noLive(set(3)), one, idle}
	next := mixed()
	for range 24 {
		l = append(l, mixedPolicy(next))
	}
	for _, p := range l {
		if !policy.Fine(p) {
			panic(p)
		}
	}
	return l
}

// labels are the labels at the ends, those of some of the policy's roles and beside them, and mixed ones.
func labels(p api.Policy, next func(below int) int) []api.Label {
	l := []api.Label{bottom, top, {}, {S: p.Active}, {I: p.Active}, {S: p.Active, I: p.Active}}
	for range 4 {
		a, r := p.Labels[next(16)], next(16)
		l = append(l, a, api.Label{S: a.S | set(r), I: a.I &^ set(15-r)}, api.Label{S: uint16(next(65536)), I: uint16(next(65536) & next(65536))})
	}
	return l
}

// leaves are all nodes without arguments.
func leaves() []api.Node {
	l := nodes("all live mine")
	for n := range 16 {
		l = append(l, api.Node{Kind: 4, N: n}, api.Node{Kind: 5, N: n})
	}
	return l
}

// isTags tells whether nodes of a type that is roles or tags have tags.
func isTags(q []api.Node) bool {
	k := q[len(q)-1].Kind
	return k == 2 || k == 5 || k == 8
}

// shorts are all queries of one and of two nodes that have a type, and those of three that have a sign, for leaves that some may not have.
func shorts(l []api.Node) [][]api.Node {
	var qs [][]api.Node
	for _, a := range l {
		q := []api.Node{a}
		qs = append(qs, q)
		for _, w := range nodes("up down tags count some") {
			if !isTags(q) {
				qs = append(qs, []api.Node{a, w})
			}
		}
		for _, w := range nodes("owners count some") {
			if isTags(q) {
				qs = append(qs, []api.Node{a, w})
			}
		}
		for _, b := range l {
			for _, s := range nodes("& | - <=") {
				if isTags(q) == isTags([]api.Node{b}) {
					qs = append(qs, []api.Node{a, b, s})
				}
			}
		}
	}
	return qs
}

// grown is a query of a type with up to some nodes.
func grown(pick func(int) int, ty, room int) []api.Node {
	if ty == number || ty == truth {
		inner := 1 + pick(2)
		if ty == truth && pick(2) == 0 && room >= 3 {
			a := grown(pick, inner, room-2)
			return append(append(a, grown(pick, inner, room-1-len(a))...), node("<="))
		}
		return append(grown(pick, inner, room-1), node(words[7+ty])) // count or some
	}
	if room >= 3 && pick(2) == 0 {
		a := grown(pick, ty, room-2)
		return append(append(a, grown(pick, ty, room-1-len(a))...), api.Node{Kind: 12 + pick(3)})
	}
	if room >= 2 && pick(4) > 0 {
		if ty == tags {
			return append(grown(pick, roles, room-1), node("tags"))
		}
		if k := pick(3); k < 2 {
			return append(grown(pick, roles, room-1), api.Node{Kind: 6 + k})
		}
		return append(grown(pick, tags, room-1), node("owners"))
	}
	switch k := pick(4); {
	case ty == tags && k == 0:
		return nodes("live")
	case ty == tags:
		return []api.Node{{Kind: 5, N: pick(16)}}
	case k == 0:
		return nodes("all")
	case k == 1:
		return nodes("mine")
	}
	return []api.Node{{Kind: 4, N: pick(16)}}
}

// P19.1: Eval

// byHand are values in small.
var byHand = []struct {
	l     api.Label
	role  int
	texts string
	ty    int
	set   uint16
	n     int
}{
	// all, under labels under which no, some and all roles are visible
	{bottom, 0, "all", roles, 0, 0}, {low, 0, "all", roles, set(0, 1, 3), 0}, {mid, 0, "all", roles, set(0, 1, 2, 3), 0},
	{high, 0, "all", roles, set(0, 1, 2, 3, 4, 5, 6), 0}, {top, 0, "all", roles, set(0, 1, 2, 3, 4, 5, 6), 0},
	// live, whoever is visible
	{bottom, 0, "live", tags, 0x0fff, 0}, {low, 9, "live", tags, 0x0fff, 0}, {top, 2, "live", tags, 0x0fff, 0},
	// mine, of roles that are visible, that are not, that are not live, and of no roles
	{low, 0, "mine", roles, set(0), 0}, {low, 3, "mine", roles, set(3), 0}, {low, 2, "mine", roles, 0, 0}, {mid, 2, "mine", roles, set(2), 0},
	{bottom, 0, "mine", roles, 0, 0}, {top, 7, "mine", roles, 0, 0}, {top, 15, "mine", roles, 0, 0}, {top, 16, "mine", roles, 0, 0}, {top, -1, "mine", roles, 0, 0},
	// a role, whoever asks
	{low, 2, "r0", roles, set(0), 0}, {low, 2, "r2", roles, 0, 0}, {mid, 0, "r2", roles, set(2), 0}, {mid, 6, "r6", roles, 0, 0}, {high, 0, "r6", roles, set(6), 0},
	{top, 0, "r7", roles, 0, 0}, {bottom, 3, "r3", roles, 0, 0},
	// a tag, whoever owns it
	{low, 0, "t0", tags, set(0), 0}, {bottom, 0, "t11", tags, set(11), 0}, {low, 0, "t12", tags, 0, 0}, {top, 0, "t15", tags, 0, 0}, {low, 1, "t2", tags, set(2), 0}, {low, 1, "t7", tags, set(7), 0},
	// up: 1 acts for 3 through 2, and 4 for 3 through 1 and 2
	{low, 0, "r3 up", roles, set(3), 0}, {mid, 0, "r3 up", roles, set(1, 2, 3), 0}, {high, 0, "r3 up", roles, set(1, 2, 3, 4, 5), 0},
	{low, 0, "r2 up", roles, 0, 0}, {mid, 0, "r2 up", roles, set(1, 2), 0}, {high, 6, "mine up", roles, set(0, 6), 0}, {low, 0, "mine up", roles, set(0), 0},
	{high, 0, "r0 r1 | up", roles, set(0, 1, 4, 5, 6), 0}, {low, 0, "all up", roles, set(0, 1, 3), 0}, {bottom, 0, "all up", roles, 0, 0}, {high, 0, "r9 up", roles, 0, 0},
	// down: the other way round
	{low, 0, "r1 down", roles, set(1), 0}, {mid, 0, "r1 down", roles, set(1, 2, 3), 0}, {high, 0, "r1 down", roles, set(1, 2, 3), 0},
	{high, 0, "r4 down", roles, set(1, 2, 3, 4, 5), 0}, {high, 0, "r5 down", roles, set(1, 2, 3, 4, 5), 0}, {mid, 4, "mine down", roles, 0, 0}, {high, 0, "mine down", roles, set(0, 6), 0},
	{mid, 0, "r2 r0 | down", roles, set(0, 2, 3), 0}, {low, 0, "r2 down", roles, 0, 0},
	// with role 2 hidden, 1 and 3 are apart; with the tag 1 alone, 4 acts for 1 but not for 3
	{api.Label{S: set(1), I: 0x0fff}, 0, "r4 down", roles, set(1, 4), 0}, {api.Label{S: set(1), I: 0x0fff}, 0, "r3 up", roles, set(3), 0},
	// tags
	{low, 0, "mine tags", tags, set(0, 8), 0}, {low, 0, "r3 tags", tags, set(3, 4), 0}, {low, 0, "r2 tags", tags, 0, 0}, {mid, 0, "r2 tags", tags, set(2, 9), 0},
	{low, 0, "all tags", tags, set(0, 1, 3, 4, 8), 0}, {mid, 0, "all tags", tags, set(0, 1, 2, 3, 4, 8, 9), 0}, {high, 0, "all tags", tags, set(0, 1, 2, 3, 4, 5, 6, 8, 9), 0},
	{high, 0, "r6 tags", tags, 0, 0}, {bottom, 0, "all tags", tags, 0, 0},
	// owners
	{low, 0, "t3 owners", roles, set(3), 0}, {low, 0, "t2 owners", roles, 0, 0}, {mid, 0, "t2 owners", roles, set(2), 0}, {low, 0, "t7 owners", roles, 0, 0}, {top, 0, "t12 owners", roles, 0, 0},
	{low, 0, "live owners", roles, set(0, 1, 3), 0}, {mid, 0, "live owners", roles, set(0, 1, 2, 3), 0}, {high, 0, "live owners", roles, set(0, 1, 2, 3, 4, 5), 0},
	{bottom, 0, "live owners", roles, 0, 0}, {low, 0, "t8 t9 | owners", roles, set(0), 0},
	// count
	{low, 0, "all count", number, 0, 3}, {high, 0, "all count", number, 0, 7}, {bottom, 0, "all count", number, 0, 0}, {bottom, 0, "live count", number, 0, 12},
	{low, 0, "r2 count", number, 0, 0}, {low, 0, "t12 count", number, 0, 0}, {low, 0, "t2 count", number, 0, 1}, {mid, 0, "r1 down count", number, 0, 3},
	// some
	{low, 0, "all some", truth, 0, 1}, {bottom, 0, "all some", truth, 0, 0}, {low, 0, "live some", truth, 0, 1}, {low, 0, "r2 some", truth, 0, 0}, {mid, 0, "r2 some", truth, 0, 1},
	{low, 0, "t12 some", truth, 0, 0}, {low, 0, "t2 some", truth, 0, 1}, {high, 0, "r6 tags some", truth, 0, 0},
	// &, |, - and <=, of both types, in both orders
	{mid, 0, "r1 down r2 up &", roles, set(1, 2), 0}, {mid, 0, "r2 up r1 down &", roles, set(1, 2), 0}, {mid, 0, "t1 live &", tags, set(1), 0}, {mid, 0, "t1 t2 &", tags, 0, 0},
	{mid, 0, "r1 r3 |", roles, set(1, 3), 0}, {mid, 0, "r3 r4 |", roles, set(3), 0}, {mid, 0, "t3 t1 |", tags, set(1, 3), 0}, {mid, 0, "t13 t1 |", tags, set(1), 0},
	{mid, 0, "all r1 -", roles, set(0, 2, 3), 0}, {mid, 0, "r1 all -", roles, 0, 0}, {mid, 0, "live t1 -", tags, 0x0ffd, 0}, {mid, 0, "t1 live -", tags, 0, 0}, {mid, 0, "t1 t2 -", tags, set(1), 0},
	{mid, 0, "r1 all <=", truth, 0, 1}, {mid, 0, "all r1 <=", truth, 0, 0}, {mid, 0, "t1 live <=", truth, 0, 1}, {mid, 0, "live t1 <=", truth, 0, 0},
	{mid, 0, "r4 r1 <=", truth, 0, 1}, {mid, 0, "r1 r4 <=", truth, 0, 0}, {mid, 0, "t12 t13 <=", truth, 0, 1}, {mid, 0, "t1 t1 <=", truth, 0, 1}, {mid, 0, "t1 t2 <=", truth, 0, 0},
	// within one another
	{mid, 0, "r1 down r2 - tags", tags, set(1, 3, 4), 0}, {mid, 0, "all r1 r2 | - r3 |", roles, set(0, 3), 0}, {mid, 0, "all r1 - r2 r3 | &", roles, set(2, 3), 0},
	{high, 0, "r3 up tags owners r1 down - count", number, 0, 2}, {low, 1, "mine tags mine up tags <=", truth, 0, 1}, {mid, 1, "mine down tags live all tags - | owners some", truth, 0, 1},
	{mid, 3, "all mine - live t3 - owners &", roles, set(0, 1, 2), 0},
}

// joins are the joins of the labels of all roles that are visible in small.
func joins(l api.Label) api.Label {
	switch l {
	case bottom:
		return bottom
	case low:
		return api.Label{S: 0, I: 0x0fff}
	case mid:
		return api.Label{S: set(0), I: 0x0fff}
	case api.Label{S: set(1), I: 0x0fff}:
		return api.Label{S: set(1), I: 0x0fff}
	}
	return api.Label{S: set(0, 1), I: 0x00ff}
}

func TestEvalByHand(t *testing.T) {
	var kinds [16]int
	for _, c := range byHand {
		q := nodes(c.texts)
		v := api.Value{Type: c.ty, Set: c.set, N: c.n, Label: joins(c.l)}
		check(t, small(), c.role, c.l, q, v, api.OK)
		checkAsk(t, small(), c.role, c.l, infix(q), v, api.OK)
		if again := modelOf(small(), c.role, c.l).value(q); again != v {
			t.Fatal(c, again)
		}
		kinds[q[len(q)-1].Kind]++
	}
	for k, n := range kinds[1:] {
		if n < 3 {
			t.Fatal(k+1, n)
		}
	}
}

func TestEvalInTheFirstPolicy(t *testing.T) {
	p := policy.First()
	for _, l := range []api.Label{bottom, top, {}, {S: all, I: all}, {S: 1, I: 2}} { // role 0 is visible under all labels
		for _, c := range []struct {
			role  int
			texts string
			ty    int
			set   uint16
			n     int
		}{
			{0, "all", roles, 1, 0}, {5, "all", roles, 1, 0}, {0, "live", tags, all, 0}, {0, "mine", roles, 1, 0}, {1, "mine", roles, 0, 0}, {3, "r0", roles, 1, 0}, {1, "r1", roles, 0, 0},
			{0, "t0", tags, 1, 0}, {0, "t15", tags, 1 << 15, 0}, {0, "all up", roles, 1, 0}, {0, "r1 up", roles, 0, 0}, {0, "all down", roles, 1, 0}, {2, "mine down", roles, 0, 0},
			{0, "mine tags", tags, all, 0}, {1, "mine tags", tags, 0, 0}, {0, "live owners", roles, 1, 0}, {7, "t9 owners", roles, 1, 0},
			{0, "mine tags count", number, 0, 16}, {1, "mine tags count", number, 0, 0}, {0, "all count", number, 0, 1}, {0, "live count", number, 0, 16},
			{0, "mine some", truth, 0, 1}, {1, "mine some", truth, 0, 0}, {0, "live some", truth, 0, 1},
			{0, "live t3 -", tags, all - 8, 0}, {0, "t3 live -", tags, 0, 0}, {0, "t3 t0 |", tags, 9, 0}, {0, "live t4 &", tags, 16, 0}, {0, "mine r1 |", roles, 1, 0}, {0, "mine r1 &", roles, 0, 0},
			{0, "live mine tags <=", truth, 0, 1}, {1, "live mine tags <=", truth, 0, 0}, {1, "mine tags live <=", truth, 0, 1}, {0, "all r1 <=", truth, 0, 0}, {0, "r1 all <=", truth, 0, 1},
		} {
			v := api.Value{Type: c.ty, Set: c.set, N: c.n, Label: bottom}
			check(t, p, c.role, l, nodes(c.texts), v, api.OK)
			checkAsk(t, p, c.role, l, infix(nodes(c.texts)), v, api.OK)
		}
	}
}

func TestEvalOfFullSets(t *testing.T) {
	p, v := allLive(), api.Value{Type: number, N: 16, Label: api.Label{S: all / 2, I: all}}
	for _, texts := range []string{"all count", "live count", "all tags count", "live owners count", "r5 up count", "r5 down count"} {
		check(t, p, 3, top, nodes(texts), v, api.OK)
	}
	for r := range 15 { // the roles up to r are visible, and each acts for those between it and r
		l := api.Label{S: 1<<r - 1, I: 0}
		join := api.Label{S: 1<<r - 1, I: all}
		for a := range 16 {
			n := max(0, r-a+1)
			check(t, p, a, l, nodes("mine down count"), api.Value{Type: number, N: n, Label: join}, api.OK)
			some := min(1, n)
			check(t, p, a, l, nodes("mine tags some"), api.Value{Type: truth, N: some, Label: join}, api.OK)
			check(t, p, a, l, []api.Node{{Kind: 5, N: a}, node("owners"), node("some")}, api.Value{Type: truth, N: some, Label: join}, api.OK)
			check(t, p, 0, l, []api.Node{{Kind: 4, N: a}, node("some")}, api.Value{Type: truth, N: some, Label: join}, api.OK)
			check(t, p, 0, l, []api.Node{{Kind: 5, N: a}, node("some")}, api.Value{Type: truth, N: 1, Label: join}, api.OK)
		}
		check(t, p, 0, l, nodes("all count"), api.Value{Type: number, N: r + 1, Label: join}, api.OK)
		check(t, p, 0, l, nodes("live all tags - count"), api.Value{Type: number, N: 15 - r, Label: join}, api.OK)
	}
}

// checkModel holds Eval against the model: its value, its type that of typing.Type, no set and no number where there is none, and its label.
func checkModel(t *testing.T, m *model, l api.Label, q []api.Node) api.Value {
	t.Helper()
	v, e := query.Eval(m.p, m.role, l, q)
	if want := m.value(q); v != want || e != api.OK {
		t.Fatalf("Eval(%v, %d, %v, %v) = %v, %v, want %v", m.p, m.role, l, q, v, e, want)
	}
	ty, _, e := typing.Type(q)
	if v.Type != ty || e != api.OK {
		t.Fatalf("Eval(.., %v) = %v, want the type %d", q, v, ty)
	}
	if (ty == number || ty == truth) && v.Set != 0 || (ty == roles || ty == tags) && v.N != 0 {
		t.Fatalf("Eval(.., %v) = %v", q, v)
	}
	if v.Label != m.join || !flows(v.Label, l) {
		t.Fatalf("Eval(.., %v, %v) = %v", l, q, v)
	}
	return v
}

func TestEvalShort(t *testing.T) {
	qs := shorts(leaves())
	if len(qs) < 2000 {
		t.Fatal(len(qs))
	}
	for i, p := range samples() {
		next := mixed()
		for j, l := range labels(p, next) {
			if i >= 8 && (i+j)%6 > 0 { // a part of the mixed policies' labels is enough
				continue
			}
			m := modelOf(p, next(16), l)
			for _, q := range qs {
				checkModel(t, m, l, q)
			}
		}
	}
}

func TestEvalForEveryRole(t *testing.T) {
	qs := shorts(nodes("all live mine r0 r9 t0 t9"))
	var seen [17]int // how many roles are visible
	for _, p := range samples() {
		next := mixed()
		for _, l := range labels(p, next) {
			v, e := query.Eval(p, 0, l, nodes("all count"))
			if e != api.OK {
				t.Fatal(e)
			}
			seen[v.N]++
			for role := range 16 {
				m := modelOf(p, role, l)
				for range 12 {
					checkModel(t, m, l, qs[next(len(qs))])
				}
				checkModel(t, m, l, nodes("mine"))
				checkModel(t, m, l, nodes("mine up"))
				checkModel(t, m, l, nodes("mine down tags"))
			}
		}
	}
	for n, times := range seen {
		if times < 2 {
			t.Fatal(n, times)
		}
	}
}

func TestEvalForNoRole(t *testing.T) {
	for _, p := range samples() {
		for _, l := range labels(p, mixed()) {
			for _, role := range noRoles {
				m := modelOf(p, role, l)
				for _, texts := range []string{"mine", "mine up", "mine tags", "mine count", "all mine -", "all mine <=", "mine all <="} {
					checkModel(t, m, l, nodes(texts))
				}
				if v := checkModel(t, m, l, nodes("mine some")); v.N != 0 {
					t.Fatal(v)
				}
			}
		}
	}
}

func TestEvalGrown(t *testing.T) {
	pick := mixed()
	ps := samples()
	var sizes [25]int
	found := map[api.Value]bool{}
	for range 40000 {
		p := ps[pick(len(ps))]
		ls := labels(p, pick)
		l := ls[pick(len(ls))]
		q := grown(pick, 1+pick(4), 2+pick(23))
		sizes[len(q)]++
		v := checkModel(t, modelOf(p, pick(16), l), l, q)
		v.Label = api.Label{}
		found[v] = true
	}
	for n, times := range sizes[1:] {
		if times < 20 && n > 0 {
			t.Fatal(n+1, times)
		}
	}
	if len(found) < 1000 {
		t.Fatal(len(found))
	}
}

func TestEvalLong(t *testing.T) {
	p := small()
	full := api.Label{S: set(0, 1), I: 0x00ff}
	for n := 1; n <= 12; n++ { // leaves in front, and signs behind them: 23 nodes at most
		q := append(nodes(strings.Repeat("r1 ", n-1)+"all"), nodes(strings.Repeat("| ", n-1))...)
		check(t, p, 0, high, q, api.Value{Type: roles, Set: p.Live, Label: full}, api.OK)
		check(t, p, 0, high, append(slices.Clone(q), node("count")), api.Value{Type: number, N: 7, Label: full}, api.OK)
		if 1 < n && n < 12 { // all - r1 is taken from r1, and that from r1 again, and so on: r1 remains every second time
			q = append(nodes(strings.Repeat("r1 ", n-1)+"all r1 -"), nodes(strings.Repeat("- ", n-1))...)
			check(t, p, 0, high, q, api.Value{Type: roles, Set: set(1) * uint16((n-1)%2), Label: full}, api.OK)
		}
	}
	q := nodes("live" + strings.Repeat(" owners tags", 11) + " count")
	check(t, p, 0, high, q, api.Value{Type: number, N: 9, Label: full}, api.OK)
	check(t, p, 0, low, q, api.Value{Type: number, N: 5, Label: joins(low)}, api.OK)
	check(t, p, 0, low, append(q[:23:23], nodes("count some")...), api.Value{}, api.ErrForm)
	q = nodes("r3" + strings.Repeat(" up", 23))
	check(t, p, 0, high, q, api.Value{Type: roles, Set: set(1, 2, 3, 4, 5), Label: full}, api.OK)
	check(t, p, 0, mid, q, api.Value{Type: roles, Set: set(1, 2, 3), Label: joins(mid)}, api.OK)
	check(t, p, 0, high, append(q, node("up")), api.Value{}, api.ErrForm)
}

// The value's label does not hang on the query.
func TestEvalLabel(t *testing.T) {
	pick := mixed()
	for _, p := range samples() {
		for _, l := range labels(p, pick) {
			join := label.Bottom()
			for r := range 16 {
				if has(policy.Seen(p, l), r) {
					join = label.Join(join, p.Labels[r])
				}
			}
			for _, texts := range []string{"t0", "live", "r0", "r15", "mine", "all", "t3 some", "r1 r1 <=", "live live - count", "r2 r2 - up"} {
				v, e := query.Eval(p, pick(16), l, nodes(texts))
				if e != api.OK || v.Label != join || !label.Flows(v.Label, l) {
					t.Fatal(p, l, texts, v, e)
				}
			}
		}
	}
	p := small() // two labels of which neither flows into the other
	p.Labels[3] = api.Label{S: set(2), I: set(0, 1)}
	p.Labels[2] = api.Label{S: set(5), I: set(1, 2)}
	v, e := query.Eval(p, 0, top, nodes("t15"))
	if want := (api.Value{Type: tags, Label: api.Label{S: set(0, 1, 2, 5), I: set(1)}}); v != want || e != api.OK {
		t.Fatal(v, e)
	}
}

func TestEvalErrors(t *testing.T) {
	bad := []struct {
		q []api.Node
		e api.Errno
	}{
		{nil, api.ErrForm}, {[]api.Node{}, api.ErrForm}, {nodes("up"), api.ErrForm}, {nodes("|"), api.ErrForm}, {nodes("r0 |"), api.ErrForm}, {nodes("r0 r1"), api.ErrForm},
		{nodes("count live"), api.ErrForm}, {nodes("t0 up r0"), api.ErrForm}, {nodes("all | all"), api.ErrForm}, {nodes("all all all |"), api.ErrForm},
		{[]api.Node{{}}, api.ErrForm}, {[]api.Node{{Kind: 16}}, api.ErrForm}, {[]api.Node{{Kind: -1}}, api.ErrForm}, {[]api.Node{{Kind: math.MaxInt}}, api.ErrForm}, {[]api.Node{{Kind: math.MinInt}}, api.ErrForm},
		{[]api.Node{{Kind: 4, N: 16}}, api.ErrForm}, {[]api.Node{{Kind: 4, N: -1}}, api.ErrForm}, {[]api.Node{{Kind: 5, N: 16}}, api.ErrForm}, {[]api.Node{{Kind: 5, N: math.MinInt}}, api.ErrForm},
		{[]api.Node{{Kind: 1, N: 1}}, api.ErrForm}, {[]api.Node{{Kind: 3, N: -1}}, api.ErrForm}, {[]api.Node{{Kind: 1}, {Kind: 10, N: 2}}, api.ErrForm},
		{nodes("r0" + strings.Repeat(" up", 24)), api.ErrForm}, {nodes("t0" + strings.Repeat(" up", 24)), api.ErrForm}, {nodes(strings.Repeat("t5 ", 13) + strings.Repeat("| ", 12)), api.ErrForm},
		{nodes("r0 t0 |"), api.ErrType}, {nodes("t0 r0 &"), api.ErrType}, {nodes("r0 t0 -"), api.ErrType}, {nodes("r0 t0 <="), api.ErrType}, {nodes("t0 up"), api.ErrType}, {nodes("t0 down"), api.ErrType},
		{nodes("t0 tags"), api.ErrType}, {nodes("r0 owners"), api.ErrType}, {nodes("all count count"), api.ErrType}, {nodes("all some count"), api.ErrType}, {nodes("all count some"), api.ErrType},
		{nodes("all some some"), api.ErrType}, {nodes("all count all count |"), api.ErrType}, {nodes("all some all some <="), api.ErrType}, {nodes("all count up"), api.ErrType},
		{nodes("r0 r1 <= r2 &"), api.ErrType}, {nodes("all all count -"), api.ErrType}, {nodes("t0 up r1 |"), api.ErrType}, {nodes("t0" + strings.Repeat(" up", 23)), api.ErrType},
	}
	for _, p := range samples() {
		for _, l := range []api.Label{bottom, top, p.Labels[0]} {
			for _, c := range bad {
				if _, _, e := typing.Type(c.q); e != c.e {
					t.Fatal(c, e)
				}
				check(t, p, 0, l, c.q, api.Value{}, c.e)
			}
			check(t, p, -1, l, nodes("t0 up"), api.Value{}, api.ErrType)
		}
	}
}

// All lists of up to four nodes: those that have no type are errors of typing.Type.
func TestEvalIsTyped(t *testing.T) {
	pick := mixed()
	count := map[api.Errno]int{}
	var q []api.Node
	var fill func(room int)
	m := modelOf(small(), 1, mid)
	fill = func(room int) {
		_, _, want := typing.Type(q)
		count[want]++
		if want == api.OK {
			checkModel(t, m, mid, q)
		} else {
			check(t, m.p, 1, mid, q, api.Value{}, want)
		}
		for k := 0; k <= 16 && room > 0; k++ {
			n := 0
			if k == 4 || k == 5 {
				n = pick(4)
			}
			q = append(q, api.Node{Kind: k, N: n})
			fill(room - 1)
			q = q[:len(q)-1]
		}
	}
	fill(4)
	if count[api.OK] < 600 || count[api.ErrType] < 2000 || count[api.ErrForm] < 50000 {
		t.Fatal(count)
	}
}

func TestEvalSpoilt(t *testing.T) {
	pick := mixed()
	count := map[api.Errno]int{}
	ps := samples()
	for range 30000 {
		p := ps[pick(len(ps))]
		q := grown(pick, 1+pick(4), 2+pick(23))
		i := pick(len(q))
		switch pick(5) {
		case 0:
			q[i].Kind = pick(17)
		case 1:
			q[i].N = pick(18) - 1
		case 2:
			q = slices.Delete(q, i, i+1)
		case 3:
			q = slices.Insert(q, i, api.Node{Kind: 1 + pick(15)})
		case 4:
			j := pick(len(q))
			q[i], q[j] = q[j], q[i]
		}
		_, _, want := typing.Type(q)
		count[want]++
		if want == api.OK {
			checkModel(t, modelOf(p, pick(16), top), top, q)
		} else {
			check(t, p, pick(16), top, q, api.Value{}, want)
		}
	}
	if count[api.OK] < 3000 || count[api.ErrType] < 3000 || count[api.ErrForm] < 10000 {
		t.Fatal(count)
	}
}

// P19.1: Ask

func TestExampleOfTheChapter(t *testing.T) {
	v := api.Value{Type: api.TyNumber, N: 16, Label: label.Bottom()}
	checkAsk(t, policy.First(), 0, label.Bottom(), "count tags mine", v, api.OK)
	if s := query.Text(v); s != "16" {
		t.Fatal(s)
	}
}

func TestAsk(t *testing.T) {
	for _, c := range []struct {
		l    api.Label
		role int
		s    string
		ty   int
		set  uint16
		n    int
		text string
	}{
		{low, 0, "all", roles, set(0, 1, 3), 0, "r0 r1 r3"},
		{high, 0, " down  r4 ", roles, set(1, 2, 3, 4, 5), 0, "r1 r2 r3 r4 r5"},
		{mid, 0, "count (r1 | up r2)", number, 0, 2, "2"},
		{low, 0, "count (r1 | up r2)", number, 0, 1, "1"},
		{mid, 0, "((r1)|(r2))&up(all)", roles, set(1, 2), 0, "r1 r2"},
		{mid, 0, "up r1<=all", truth, 0, 1, "yes"},
		{mid, 0, "all <= up r1", truth, 0, 0, "no"},
		{low, 3, "tags mine", tags, set(3, 4), 0, "t3 t4"},
		{low, 3, "live - t3 - t4 - t5", tags, 0x0fff &^ set(3, 4, 5), 0, "t0 t1 t2 t6 t7 t8 t9 t10 t11"},
		{low, 3, "live - (t3 - t4 | t5)", tags, 0x0fff &^ set(3, 5), 0, "t0 t1 t2 t4 t6 t7 t8 t9 t10 t11"},
		{low, 0, "t1 | t2 & t3", tags, set(1), 0, "t1"},
		{low, 0, "(t1 | t2) & t3", tags, 0, 0, "-"},
		{low, 0, "r2", roles, 0, 0, "-"},
		{low, 0, "some owners t2", truth, 0, 0, "no"},
		{mid, 0, "some owners t2", truth, 0, 1, "yes"},
		{top, 0, "count live", number, 0, 12, "12"},
		{bottom, 0, "count all", number, 0, 0, "0"},
		{high, 0, "up up up up up up up up r3", roles, set(1, 2, 3, 4, 5), 0, "r1 r2 r3 r4 r5"},
		{mid, 0, "t1|t2|t3|t4|t5|t6|t7|t8|t9|t0|t1|t2", tags, 0x03ff, 0, "t0 t1 t2 t3 t4 t5 t6 t7 t8 t9"},
	} {
		v := api.Value{Type: c.ty, Set: c.set, N: c.n, Label: joins(c.l)}
		checkAsk(t, small(), c.role, c.l, c.s, v, api.OK)
		if s := query.Text(v); s != c.text {
			t.Fatal(c, s)
		}
	}
}

func TestAskErrors(t *testing.T) {
	for _, c := range []struct {
		s string
		e api.Errno
	}{
		{"", api.ErrForm}, {" ", api.ErrForm}, {"()", api.ErrForm}, {"r16", api.ErrForm}, {"t16", api.ErrForm}, {"r01", api.ErrForm}, {"up", api.ErrForm}, {"all all", api.ErrForm}, {"r0 <= r1 <= r2", api.ErrForm},
		{"All", api.ErrForm}, {"all\n", api.ErrForm}, {"\x00", api.ErrForm}, {"all)", api.ErrForm}, {"(all", api.ErrForm}, {"count", api.ErrForm}, {"all &", api.ErrForm}, {"16", api.ErrForm},
		{"((((((((up r1))))))))", api.ErrDeep}, {"up up up up up up up up up r1", api.ErrDeep},
		{strings.Repeat(" ", 46) + "all", api.ErrMany}, {strings.Repeat("x", 49), api.ErrMany}, {strings.Repeat("r0|", 12) + "r0", api.ErrMany},
		{"r0 | t0", api.ErrType}, {"up t0", api.ErrType}, {"count count all", api.ErrType}, {"r0 <= t0", api.ErrType}, {"owners all", api.ErrType}, {"tags live", api.ErrType}, {"(r0 <= r1) <= (r0 <= r1)", api.ErrType},
		// An error of the text stands ahead of that of its types.
		{"r0 | t0 |", api.ErrForm}, {"(r0 | t0", api.ErrForm}, {"count count all all", api.ErrForm}, {"r0 | t0 x", api.ErrForm}, {"up t0 <= all <= all", api.ErrForm},
		{"((((((((up t0))))))))", api.ErrDeep}, {strings.Repeat("t0|", 12) + "r0", api.ErrMany}, {"up t0" + strings.Repeat(" ", 44), api.ErrMany},
	} {
		for _, p := range []api.Policy{policy.First(), small(), noLive(0)} {
			checkAsk(t, p, 0, top, c.s, api.Value{}, c.e)
			checkAsk(t, p, 7, bottom, c.s, api.Value{}, c.e)
		}
	}
}

// Ask is Eval of the nodes, if the text has nodes.
func TestAskIsEval(t *testing.T) {
	pick := mixed()
	ps := samples()
	count := map[api.Errno]int{}
	for range 30000 {
		p := ps[pick(len(ps))]
		l := labels(p, pick)[pick(18)]
		s := infix(grown(pick, 1+pick(4), 2+pick(12)))
		switch pick(5) {
		case 0:
			i := pick(len(s))
			s = s[:i] + s[i+1:]
		case 1:
			i := pick(len(s))
			s = s[:i] + string("rt01 (|&-<=)u"[pick(13)]) + s[i+1:]
		case 2:
			s = strings.ReplaceAll(s, "|", " |  ")
		case 3:
			s = "some " + s
		}
		role := pick(17)
		q, _, e := parse.Query(s)
		var v api.Value
		if e == api.OK {
			v, e = query.Eval(p, role, l, q)
		}
		if e == api.OK {
			v = modelOf(p, role, l).value(q)
		}
		count[e]++
		checkAsk(t, p, role, l, s, v, e)
	}
	if count[api.OK] < 10000 || count[api.ErrForm] < 1000 || count[api.ErrType] < 300 || count[api.ErrMany] < 100 || count[api.ErrDeep] < 20 {
		t.Fatal(count)
	}
}

// P19.2: Text

func TestText(t *testing.T) {
	for _, c := range []struct {
		v    api.Value
		text string
	}{
		{api.Value{Type: roles}, "-"}, {api.Value{Type: tags}, "-"},
		{api.Value{Type: roles, Set: set(0)}, "r0"}, {api.Value{Type: tags, Set: set(0)}, "t0"}, {api.Value{Type: roles, Set: set(15)}, "r15"}, {api.Value{Type: tags, Set: set(15)}, "t15"},
		{api.Value{Type: roles, Set: set(9, 10)}, "r9 r10"}, {api.Value{Type: tags, Set: set(2, 10, 1)}, "t1 t2 t10"},
		{api.Value{Type: roles, Set: all}, "r0 r1 r2 r3 r4 r5 r6 r7 r8 r9 r10 r11 r12 r13 r14 r15"},
		{api.Value{Type: tags, Set: all}, "t0 t1 t2 t3 t4 t5 t6 t7 t8 t9 t10 t11 t12 t13 t14 t15"},
		{api.Value{Type: number}, "0"}, {api.Value{Type: number, N: 1}, "1"}, {api.Value{Type: number, N: 7}, "7"}, {api.Value{Type: number, N: 10}, "10"}, {api.Value{Type: number, N: 16}, "16"},
		{api.Value{Type: number, N: 100}, "100"}, {api.Value{Type: number, N: 65536}, "65536"}, {api.Value{Type: number, N: -1}, "-1"}, {api.Value{Type: number, N: -207}, "-207"},
		{api.Value{Type: number, N: math.MaxInt}, "9223372036854775807"}, {api.Value{Type: number, N: math.MinInt}, "-9223372036854775808"},
		{api.Value{Type: truth}, "no"}, {api.Value{Type: truth, N: 1}, "yes"},
		{api.Value{}, ""}, {api.Value{Set: 1, N: 1}, ""}, {api.Value{Type: 5, Set: 1, N: 1}, ""}, {api.Value{Type: -1, N: 1}, ""},
		// A truth that is neither yes nor no.
		{api.Value{Type: truth, N: 2}, ""}, {api.Value{Type: truth, N: -1}, ""}, {api.Value{Type: truth, N: math.MaxInt}, ""}, {api.Value{Type: truth, N: math.MinInt}, ""},
	} {
		for range 2 {
			if s := query.Text(c.v); s != c.text {
				t.Fatalf("Text(%v) = %q, want %q", c.v, s, c.text)
			}
		}
		c.v.Label = api.Label{S: 5, I: 10} // whatever the label is
		if s := query.Text(c.v); s != c.text {
			t.Fatalf("Text(%v) = %q, want %q", c.v, s, c.text)
		}
	}
}

func TestTextOfEverySet(t *testing.T) {
	for s := range 1 << 16 {
		r, g := "", ""
		for m := range 16 {
			if has(uint16(s), m) {
				r += " r" + fmt.Sprint(m)
				g += " t" + fmt.Sprint(m)
			}
		}
		if s == 0 {
			r, g = " -", " -"
		}
		n := s - 300 // no number and no truth has an effect
		if got := query.Text(api.Value{Type: api.TyRoles, Set: uint16(s), N: n}); got != r[1:] {
			t.Fatalf("%d: %q", s, got)
		}
		if got := query.Text(api.Value{Type: api.TyTags, Set: uint16(s), N: n}); got != g[1:] {
			t.Fatalf("%d: %q", s, got)
		}
		if got := query.Text(api.Value{Type: api.TyNumber, Set: uint16(s), N: n}); got != fmt.Sprint(n) {
			t.Fatalf("%d: %q", n, got)
		}
		if got := query.Text(api.Value{Type: api.TyTruth, Set: uint16(s), N: 1}); got != "yes" {
			t.Fatalf("%d: %q", s, got)
		}
		if got := query.Text(api.Value{Type: api.TyTruth, Set: uint16(s)}); got != "no" {
			t.Fatalf("%d: %q", s, got)
		}
	}
}

func TestTextOfNoType(t *testing.T) {
	for _, ty := range []int{0, 5, 6, -1, -2, -4, 16, 255, 256, 257, 258, 260, 65537, 1 << 32, 1<<32 + 1, 1<<32 + 3, 1<<62 + 2, math.MaxInt, math.MinInt, math.MinInt + 1, math.MinInt + 4} {
		for _, v := range []api.Value{{}, {Set: 1}, {Set: all}, {N: 1}, {N: 16}, {N: -1}, {Set: 3, N: 1, Label: bottom}} {
			v.Type = ty
			if s := query.Text(v); s != "" {
				t.Fatalf("Text(%v) = %q", v, s)
			}
		}
	}
}

// The text of what Eval answers is that of its type.
func TestTextOfValues(t *testing.T) {
	pick := mixed()
	ps := samples()
	count := map[string]int{}
	for range 5000 {
		p := ps[pick(len(ps))]
		l := labels(p, pick)[pick(18)]
		v, e := query.Eval(p, pick(16), l, grown(pick, 1+pick(4), 2+pick(12)))
		s := query.Text(v)
		switch {
		case e != api.OK:
			t.Fatal(e)
		case v.Type == truth && s != "yes" && s != "no", v.Type == number && s != fmt.Sprint(v.N), s == "":
			t.Fatal(v, s)
		}
		count[s]++
	}
	for _, s := range []string{"-", "yes", "no", "0", "1", "16", "r0", "t0"} {
		if count[s] == 0 {
			t.Fatal(s)
		}
	}
}

// P19.3: roles that are not visible have no effect on the value

// hidden are valid policies that differ from p in roles that are not visible under l: in whether there are any, in their labels, in whom they act for and who acts for them, and in the tags that they own.
func hidden(p api.Policy, l api.Label, next func(below int) int) []api.Policy {
	seen := modelOf(p, 0, l).visible
	bare := p // without them all
	for r := range 16 {
		if !seen[r] {
			bare.Live &^= set(r)
			bare.Labels[r] = api.Label{}
			bare.Acts[r] = 0
		}
		bare.Acts[r] &= seen.of()
	}
	for tag, owner := range bare.Owner {
		if owner < 16 && !seen[owner] {
			bare.Owner[tag] = 16
		}
	}
	l3 := []api.Policy{bare}
	for range 3 {
		q := bare
		for r := range 16 {
			own := api.Label{S: q.Active & uint16(next(65536)), I: q.Active & uint16(next(65536))}
			if !seen[r] && !flows(own, l) && next(4) > 0 {
				q.Live |= set(r)
				q.Labels[r] = own
			}
		}
		others := q.Live &^ seen.of()
		for r := range 16 {
			switch {
			case has(others, r):
				q.Acts[r] = q.Live & uint16(next(65536)|next(65536)) &^ set(r)
			case seen[r]:
				q.Acts[r] |= others & uint16(next(65536))
			}
		}
		for tag := range 16 {
			if r := next(16); has(q.Active, tag) && q.Owner[tag] == 16 && has(others, r) {
				q.Owner[tag] = uint8(r)
			}
		}
		l3 = append(l3, q)
	}
	return l3
}

func TestRolesThatAreNotVisibleHaveNoEffect(t *testing.T) {
	pick := mixed()
	qs := shorts(nodes("all live mine r0 r3 r9 t0 t4 t9"))
	differ, few := 0, 0
	for _, p := range samples() {
		for _, l := range labels(p, pick) {
			for _, q := range hidden(p, l, pick) {
				if !policy.Fine(q) || policy.Seen(p, l) != policy.Seen(q, l) {
					t.Fatal(p, q, l)
				}
				if p != q {
					differ++
				}
				if p != q && policy.Seen(p, l) != 0 {
					few++
				}
				for i := range 160 {
					nodes := qs[pick(len(qs))]
					if i%2 == 0 {
						nodes = grown(pick, 1+pick(4), 2+pick(23))
					}
					role := pick(17)
					a, e := query.Eval(p, role, l, nodes)
					b, f := query.Eval(q, role, l, nodes)
					if a != b || e != api.OK || f != api.OK {
						t.Fatalf("%v under %v: %v, %v in %v; %v, %v in %v", nodes, l, a, e, p, b, f, q)
					}
				}
			}
		}
	}
	if differ < 1000 || few < 500 {
		t.Fatal(differ, few)
	}
}

func TestHiddenRoleByHand(t *testing.T) {
	p := small()
	for _, change := range []func(q *api.Policy){
		func(q *api.Policy) { q.Labels[2] = api.Label{S: set(0, 3), I: set(9)} },
		func(q *api.Policy) { q.Acts[2] = set(0, 1, 3, 5) },
		func(q *api.Policy) { q.Acts[2] = 0 },
		func(q *api.Policy) { q.Acts[1] = 0; q.Acts[3] = set(2, 4, 6) },
		func(q *api.Policy) { q.Owner[2] = 4; q.Owner[9] = 16; q.Owner[7] = 5; q.Owner[11] = 2 },
		func(q *api.Policy) { q.Live |= set(7); q.Labels[7] = api.Label{S: set(4)}; q.Acts[7] = set(0, 1, 3) },
		func(q *api.Policy) {
			q.Live, q.Labels[5], q.Acts[5], q.Acts[4], q.Owner[6] = q.Live&^set(5), api.Label{}, 0, set(1), 16
		},
	} {
		q := p
		change(&q)
		if q == p || !policy.Fine(q) {
			t.Fatal(q)
		}
		for _, c := range byHand {
			if c.l == low {
				v := api.Value{Type: c.ty, Set: c.set, N: c.n, Label: joins(low)}
				check(t, q, c.role, low, nodes(c.texts), v, api.OK)
			}
		}
		for role := range 16 {
			for _, nodes := range shorts(nodes("all live mine r2 r3 r5 r7 t2 t7 t9")) {
				a, _ := query.Eval(p, role, low, nodes)
				b, _ := query.Eval(q, role, low, nodes)
				if a != b || a.Label != low {
					t.Fatal(nodes, a, b, q)
				}
			}
		}
	}
}

// P19.4: the label of the value flows into that of the caller

func TestLabelOfTheValueFlows(t *testing.T) {
	pick := mixed()
	moved := 0 // the value's label is another one than the caller's
	for _, p := range samples() {
		for range 200 {
			l := api.Label{S: uint16(pick(65536) & pick(65536)), I: uint16(pick(65536) & pick(65536))}
			v, e := query.Eval(p, pick(16), l, grown(pick, 1+pick(4), 2+pick(6)))
			if e != api.OK || !flows(v.Label, l) {
				t.Fatal(p, l, v, e)
			}
			if v.Label != l && v.Label != bottom {
				moved++
			}
		}
	}
	if moved < 500 {
		t.Fatal(moved)
	}
}
