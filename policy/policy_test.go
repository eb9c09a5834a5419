package policy_test

import (
	"bytes"
	"testing"

	"forepeak/api"
	"forepeak/policy"
	"forepeak/wire"
)

// The signatures are those of the chapter.
var (
	_ func() api.Policy                                = policy.First
	_ func(p api.Policy) bool                          = policy.Fine
	_ func(p api.Policy, l api.Label) uint16           = policy.Seen
	_ func(p api.Policy, a, b int, l api.Label) bool   = policy.ActsFor
	_ func(p api.Policy, role int, l api.Label) uint16 = policy.Caps
	_ func(p api.Policy, roles uint16) uint16          = policy.Owned
	_ func(p api.Policy, m api.Map) api.Policy         = policy.Mapped
	_ func(p api.Policy) []byte                        = policy.Bytes
	_ func(r *wire.Reader) api.Policy                  = policy.Read
)

const all = 65535

var (
	bottom = api.Label{S: 0, I: all}
	top    = api.Label{S: all, I: 0}
)

// noRoles are numbers that are no roles.
var noRoles = []int{-1 << 63, -65536, -17, -16, -1, 16, 17, 31, 32, 63, 64, 255, 256, 65535, 65536, 1<<63 - 1}

// set is the set of some roles or tags, without any function of the program.
func set(members ...int) uint16 {
	var s uint16
	for _, m := range members {
		s |= 1 << m
	}
	return s
}

// has tells whether a role or tag is in a set, without any function of the program.
func has(s uint16, m int) bool { return s>>m&1 == 1 }

// inside tells whether all members of a are in b, without any function of the program.
func inside(a, b uint16) bool {
	for m := range 16 {
		if has(a, m) && !has(b, m) {
			return false
		}
	}
	return true
}

// flows tells whether a label flows into another one, without any function of the program.
func flows(a, b api.Label) bool { return inside(a.S, b.S) && inside(b.I, a.I) }

// mixed returns a source of numbers that look like any, the same ones in each run.
func mixed() func(below int) int {
	x := uint64(1)
	return func(below int) int {
		x = x*6364136223846793005 + 1442695040888963407
		return int(x>>33) % below
	}
}

// nobody are the owners of tags that have none.
func nobody() [16]uint8 {
	var owner [16]uint8
	for t := range owner {
		owner[t] = 16
	}
	return owner
}

// small is a policy with the roles 1, 2, 3 and 9 and the tags 0 to 5, in which 1 acts for 2, and 2 for 3. Role 2 is not visible without the secrecy 0, and role 3 only at little integrity.
func small() api.Policy {
	p := api.Policy{Live: set(1, 2, 3, 9), Active: set(0, 1, 2, 3, 4, 5), Owner: nobody()}
	p.Labels[1] = api.Label{I: set(0, 1, 2, 3, 4, 5)}
	p.Labels[2] = api.Label{S: set(0), I: set(1, 2)}
	p.Labels[3] = api.Label{I: set(1)}
	p.Labels[9] = api.Label{S: set(5), I: set(1, 2)}
	p.Acts[1] = set(2)
	p.Acts[2] = set(3)
	p.Acts[9] = set(1)
	p.Owner[0], p.Owner[1], p.Owner[2], p.Owner[3] = 1, 2, 3, 3
	p.Owner[5] = 9
	return p
}

// noLive is the policy without live roles in which some tags are in use.
func noLive(active uint16) api.Policy {
	return api.Policy{Active: active, Owner: nobody()}
}

// allLive is the policy in which all roles are live, each acts for the next one and owns its tag, and role r has the secrecies below r.
func allLive() api.Policy {
	p := api.Policy{Live: all, Active: all}
	for r := range 16 {
		p.Labels[r] = api.Label{S: 1<<r - 1, I: all}
		p.Acts[r] = 1 << ((r + 1) % 16)
		p.Owner[r] = uint8(r)
	}
	return p
}

// mixedPolicy is a valid policy. Its labels have few secrecies and much integrity, so that many of them flow into one another.
func mixedPolicy(next func(below int) int) api.Policy {
	p := api.Policy{Live: uint16(next(65536)), Active: uint16(next(65536) | next(65536)), Owner: nobody()}
	if next(4) == 0 {
		p.Live = all
	}
	if next(4) == 0 {
		p.Active = all
	}
	edges := 1 + next(3)
	for r := range 16 {
		if !has(p.Live, r) {
			continue
		}
		p.Labels[r] = api.Label{S: p.Active & set(next(16)) & uint16(-next(2)), I: p.Active &^ set(next(16))}
		for range edges {
			p.Acts[r] |= p.Live & set(next(16)) &^ set(r)
		}
	}
	for t := range 16 {
		if r := next(17); r < 16 && has(p.Active, t) && has(p.Live, r) {
			p.Owner[t] = uint8(r)
		}
	}
	return p
}

// samples are valid policies: with no, one, some and all roles live, with no, some and all tags in use, and mixed ones.
func samples() []api.Policy {
	one := api.Policy{Live: set(15), Active: set(15), Owner: nobody()}
	one.Labels[15] = api.Label{S: set(15), I: set(15)}
	one.Owner[15] = 15
	idle := noLive(0)
	idle.Live = set(0, 7)
	l := []api.Policy{policy.First(), small(), allLive(), noLive(0), noLive(all), noLive(set(3)), one, idle}
	next := mixed()
	for range 60 {
		l = append(l, mixedPolicy(next))
	}
	return l
}

// labels are the labels at the ends, those of the policy's roles and beside them, and mixed ones.
func labels(p api.Policy) []api.Label {
	l := []api.Label{bottom, top, {}, {S: all, I: all}, {S: p.Active}, {I: p.Active}, {S: 1, I: all - 1}}
	for r := range 16 {
		a := p.Labels[r]
		l = append(l, a, api.Label{S: a.S | set(r), I: a.I &^ set(15-r)}, api.Label{S: a.S, I: a.I | set(r)})
	}
	next := mixed()
	for range 24 {
		l = append(l, api.Label{S: uint16(next(65536) & next(65536)), I: uint16(next(65536) & next(65536))})
	}
	return l
}

// each calls f with all samples and their labels.
func each(f func(p api.Policy, l api.Label)) {
	for _, p := range samples() {
		for _, l := range labels(p) {
			f(p, l)
		}
	}
}

// valid is Fine by the words of the chapter, clause by clause.
func valid(p api.Policy) bool {
	for r := range 16 {
		if !has(p.Live, r) {
			if p.Labels[r].S != 0 || p.Labels[r].I != 0 || p.Acts[r] != 0 {
				return false
			}
			continue
		}
		if !inside(p.Labels[r].S, p.Active) || !inside(p.Labels[r].I, p.Active) {
			return false
		}
		if has(p.Acts[r], r) || !inside(p.Acts[r], p.Live) {
			return false
		}
	}
	for t := range 16 {
		if p.Owner[t] == 16 {
			continue
		}
		if p.Owner[t] > 16 || !has(p.Live, int(p.Owner[t])) || !has(p.Active, t) {
			return false
		}
	}
	return true
}

// visible is Seen by the words of the chapter.
func visible(p api.Policy, l api.Label) uint16 {
	var s uint16
	for r := range 16 {
		if has(p.Live, r) && flows(p.Labels[r], l) {
			s |= 1 << r
		}
	}
	return s
}

// pairs tells who acts for whom under a label.
type pairs [16][16]bool

// pairsOf are the pairs by the definition: paths of one role, of one edge, and two paths behind each other, of visible roles.
func pairsOf(p api.Policy, l api.Label) *pairs {
	seen := visible(p, l)
	var q pairs
	for a := range 16 {
		for b := range 16 {
			q[a][b] = has(seen, a) && has(seen, b) && (a == b || has(p.Acts[a], b))
		}
	}
	for mid := range 16 {
		for a := range 16 {
			for b := range 16 {
				q[a][b] = q[a][b] || q[a][mid] && q[mid][b]
			}
		}
	}
	return &q
}

// capsOf is Caps by the words of the chapter.
func capsOf(p api.Policy, role int, q *pairs) uint16 {
	var s uint16
	for t := range 16 {
		if has(p.Active, t) && p.Owner[t] < 16 && q[role][p.Owner[t]] {
			s |= 1 << t
		}
	}
	return s
}

// ownedBy is Owned by the words of the chapter.
func ownedBy(p api.Policy, roles uint16) uint16 {
	var s uint16
	for t := range 16 {
		if p.Owner[t] < 16 && has(roles, int(p.Owner[t])) {
			s |= 1 << t
		}
	}
	return s
}

// two are the bytes of a number in two bytes.
func two(n uint16) []byte { return []byte{byte(n >> 8), byte(n)} }

// bytesOf is Bytes by the words of the chapter.
func bytesOf(p api.Policy) []byte {
	b := two(p.Live)
	for r := range 16 {
		if has(p.Live, r) {
			b = append(b, two(p.Labels[r].S)...)
			b = append(b, two(p.Labels[r].I)...)
			b = append(b, two(p.Acts[r])...)
		}
	}
	b = append(b, two(p.Active)...)
	return append(b, p.Owner[:]...)
}

// readOf is Read by the words of the chapter: the policy, the error, and how many bytes are left.
func readOf(b []byte) (api.Policy, api.Errno, int) {
	var p api.Policy
	e := api.OK
	num := func(size, most int) int {
		if e == api.OK && len(b) < size {
			e = api.ErrEnd
		}
		if e != api.OK {
			return 0
		}
		n := 0
		for _, x := range b[:size] {
			n = n*256 + int(x)
		}
		b = b[size:]
		if n > most {
			e = api.ErrRange
		}
		return n
	}
	p.Live = uint16(num(2, all))
	for r := range 16 {
		if has(p.Live, r) {
			p.Labels[r].S = uint16(num(2, all))
			p.Labels[r].I = uint16(num(2, all))
			p.Acts[r] = uint16(num(2, all))
		}
	}
	p.Active = uint16(num(2, all))
	for t := range 16 {
		p.Owner[t] = uint8(num(1, 16))
	}
	if e == api.OK && !valid(p) {
		e = api.ErrForm
	}
	if e != api.OK {
		return api.Policy{}, e, 0
	}
	return p, api.OK, len(b)
}

// checkRead reads bytes and holds the policy, the error and what is left against the wanted ones.
func checkRead(t *testing.T, b []byte, p api.Policy, e api.Errno, left int) {
	t.Helper()
	r := wire.NewReader(b)
	got := policy.Read(r)
	if got != p || r.Err() != e || r.Left() != left {
		t.Fatalf("Read(%v) = %v, error %v, %d left, want %v, error %v, %d left", b, got, r.Err(), r.Left(), p, e, left)
	}
}

// P12.1: First, Fine, Seen, ActsFor, Caps, Owned.

func TestExampleOfTheChapter(t *testing.T) {
	p := policy.First()
	if c := policy.Caps(p, 0, bottom); c != all {
		t.Errorf("role 0 under the bottom label: %d", c)
	}
	for _, l := range labels(p) {
		if c := policy.Caps(p, 0, l); c != all {
			t.Errorf("role 0 under %v: %d", l, c)
		}
		for r := 1; r < 16; r++ {
			if c := policy.Caps(p, r, l); c != 0 {
				t.Errorf("role %d under %v: %d", r, l, c)
			}
		}
	}
}

func TestFirst(t *testing.T) {
	want := api.Policy{Live: 1, Active: all}
	want.Labels[0] = api.Label{S: 0, I: all}
	p := policy.First()
	if p != want {
		t.Fatalf("First() = %v", p)
	}
	if !policy.Fine(p) {
		t.Fatal("First is not valid")
	}
	if policy.Owned(p, 1) != all || policy.Owned(p, all-1) != 0 {
		t.Fatal("role 0 does not own all tags of First")
	}
	for _, l := range labels(p) {
		if s := policy.Seen(p, l); s != 1 {
			t.Errorf("under %v: %d", l, s)
		}
		if !policy.ActsFor(p, 0, 0, l) || policy.ActsFor(p, 0, 1, l) || policy.ActsFor(p, 1, 0, l) || policy.ActsFor(p, 1, 1, l) {
			t.Errorf("who acts for whom under %v", l)
		}
	}
	p.Owner[3] = 16
	p.Labels[0] = top
	if policy.First() != want {
		t.Fatal("First was changed by what was done with its result")
	}
}

func TestFine(t *testing.T) {
	for i, p := range samples() {
		if !valid(p) || !policy.Fine(p) {
			t.Errorf("sample %d is not valid: %v", i, p)
		}
	}
	if policy.Fine(api.Policy{}) {
		t.Error("the zero policy is valid: its tags' owner is not live")
	}
}

func TestFineBreaksOnePartAtATime(t *testing.T) {
	cases := []struct {
		name   string
		change func(p *api.Policy)
		fine   bool
	}{
		{"as it is", func(p *api.Policy) {}, true},
		{"a role that is not live has secrecy", func(p *api.Policy) { p.Labels[0].S = set(1) }, false},
		{"a role that is not live has integrity", func(p *api.Policy) { p.Labels[15].I = set(1) }, false},
		{"a role that is not live acts for a live one", func(p *api.Policy) { p.Acts[4] = set(3) }, false},
		{"a role that is not live acts for itself", func(p *api.Policy) { p.Acts[4] = set(4) }, false},
		{"a live role's secrecy is not in use", func(p *api.Policy) { p.Labels[1].S = set(6) }, false},
		{"a live role's integrity is not in use", func(p *api.Policy) { p.Labels[1].I |= set(15) }, false},
		{"a live role's secrecy is in use", func(p *api.Policy) { p.Labels[1].S = set(5) }, true},
		{"a live role's integrity is in use", func(p *api.Policy) { p.Labels[9].I |= set(0) }, true},
		{"a live role has the zero label", func(p *api.Policy) { p.Labels[9] = api.Label{} }, true},
		{"a live role acts for one that is not live", func(p *api.Policy) { p.Acts[3] = set(0) }, false},
		{"a live role acts for one that is not live, too", func(p *api.Policy) { p.Acts[1] |= set(15) }, false},
		{"a live role acts for itself", func(p *api.Policy) { p.Acts[3] = set(3) }, false},
		{"a live role acts for itself, too", func(p *api.Policy) { p.Acts[1] |= set(1) }, false},
		{"live roles act for each other", func(p *api.Policy) { p.Acts[3] = set(1, 2, 9) }, true},
		{"live roles act for each other, and one for itself", func(p *api.Policy) { p.Acts[3] = set(1, 2, 3, 9) }, false},
		{"an owner is not live", func(p *api.Policy) { p.Owner[4] = 0 }, false},
		{"an owner is not live, at the end", func(p *api.Policy) { p.Owner[0] = 15 }, false},
		{"an owner is above 16", func(p *api.Policy) { p.Owner[4] = 17 }, false},
		{"an owner is far above 16", func(p *api.Policy) { p.Owner[4] = 255 }, false},
		{"an owner is a live role and 16", func(p *api.Policy) { p.Owner[4] = 16 + 1 }, false},
		{"an owner is a live role and 32", func(p *api.Policy) { p.Owner[4] = 32 + 3 }, false},
		{"a tag in use gets an owner", func(p *api.Policy) { p.Owner[4] = 3 }, true},
		{"a tag in use has no owner", func(p *api.Policy) { p.Owner[0] = 16 }, true},
		{"a tag that is not in use has an owner", func(p *api.Policy) { p.Owner[6] = 1 }, false},
		{"a tag that is not in use has an owner that is not live", func(p *api.Policy) { p.Owner[15] = 0 }, false},
		{"a tag that is not in use has an owner above 16", func(p *api.Policy) { p.Owner[15] = 17 }, false},
		{"one more tag is in use", func(p *api.Policy) { p.Active |= set(15) }, true},
		{"a tag of a label is not in use any more", func(p *api.Policy) { p.Active = set(0, 1, 2, 3, 5) }, false},
		{"one more role is live", func(p *api.Policy) { p.Live |= set(0) }, true},
		{"a role is not live any more", func(p *api.Policy) { p.Live = set(1, 2, 3) }, false},
	}
	for _, c := range cases {
		p := small()
		c.change(&p)
		if got := policy.Fine(p); got != c.fine {
			t.Errorf("%s: %v", c.name, got)
		}
	}
}

// selfish is a policy in which a role acts directly for itself, and what it would be if it did not.
type selfish struct {
	name      string
	p, mended api.Policy
}

// selfishOf are the policies in which a role acts directly for itself: where it alone is live, and beside none, each and all of the other roles for which it acts.
func selfishOf(r int) []selfish {
	alone := noLive(all)
	alone.Live = set(r)
	alone.Owner[r] = uint8(r)
	free := allLive()
	free.Acts = [16]uint16{}
	busy := allLive()
	for a := range 16 {
		busy.Acts[a] = all - set(a)
	}
	l := []selfish{
		{name: "alone", mended: alone},
		{name: "no role acts", mended: free},
		{name: "each acts for the next one", mended: allLive()},
		{name: "all act for all others", mended: busy},
	}
	for other := range 16 {
		if other != r {
			p, back := free, free
			p.Acts[r] = set(other)
			back.Acts[other] = set(r)
			l = append(l, selfish{name: "it acts for one", mended: p}, selfish{name: "one acts for it", mended: back})
		}
	}
	for i := range l {
		l[i].p = l[i].mended
		l[i].p.Acts[r] |= set(r)
	}
	return l
}

func TestFineOfARoleThatActsForItself(t *testing.T) {
	for r := range 16 {
		for _, c := range selfishOf(r) {
			if !policy.Fine(c.mended) {
				t.Errorf("role %d, %s: not valid: %v", r, c.name, c.mended)
			}
			if policy.Fine(c.p) {
				t.Errorf("role %d acts for itself, %s: valid: %v", r, c.name, c.p)
			}
		}
		p := noLive(all)
		p.Acts[r] = set(r)
		if policy.Fine(p) {
			t.Errorf("role %d, which is not live, acts for itself: valid", r)
		}
	}
}

// Where all roles are live, each may act directly for every set of others, and for no set that has itself.
func TestFineForEachSetOfActs(t *testing.T) {
	for r := range 16 {
		p := allLive()
		for acts := range 65536 {
			p.Acts[r] = uint16(acts)
			if got := policy.Fine(p); got == has(uint16(acts), r) {
				t.Fatalf("role %d acts for %d: %v", r, acts, got)
			}
		}
	}
}

func TestFineWithoutLiveRoles(t *testing.T) {
	for _, active := range []uint16{0, 1, set(3, 7), 32768, all} {
		if !policy.Fine(noLive(active)) {
			t.Errorf("no live role, tags in use %d: not valid", active)
		}
		for tag := range 16 {
			p := noLive(active)
			for owner := range 256 {
				p.Owner[tag] = uint8(owner)
				if got := policy.Fine(p); got != (owner == 16) {
					t.Errorf("no live role, tags in use %d, owner %d of %d: %v", active, owner, tag, got)
				}
			}
		}
	}
}

// Every field of a policy, with each of its bits turned, and each owner of each tag.
func TestFineFieldByField(t *testing.T) {
	count := [2]int{}
	check := func(p api.Policy) {
		want := valid(p)
		if got := policy.Fine(p); got != want {
			t.Fatalf("Fine(%v) = %v", p, got)
		}
		if want {
			count[1]++
		} else {
			count[0]++
		}
	}
	for _, p := range samples()[:30] {
		fields := []*uint16{&p.Live, &p.Active}
		for r := range 16 {
			fields = append(fields, &p.Labels[r].S, &p.Labels[r].I, &p.Acts[r])
		}
		for _, f := range fields {
			for bit := range 16 {
				*f ^= 1 << bit
				check(p)
				*f ^= 1 << bit
			}
		}
		for tag := range 16 {
			was := p.Owner[tag]
			for owner := range 256 {
				p.Owner[tag] = uint8(owner)
				check(p)
			}
			p.Owner[tag] = was
		}
	}
	if count[0] < 10000 || count[1] < 10000 {
		t.Fatalf("policies that are not valid, and valid ones: %v", count)
	}
}

func TestSeen(t *testing.T) {
	p := small()
	cases := []struct {
		name string
		l    api.Label
		want uint16
	}{
		{"the bottom label", bottom, 0},
		{"all tags in use as integrity", api.Label{I: p.Active}, set(1)},
		{"the top label", top, set(1, 2, 3, 9)},
		{"the zero label", api.Label{}, set(1, 3)},
		{"role 1's own label", p.Labels[1], set(1)},
		{"role 2's own label", p.Labels[2], set(1, 2)},
		{"role 3's own label", p.Labels[3], set(1, 3)},
		{"role 9's own label", p.Labels[9], set(1, 9)},
		{"the secrecy of 2, the integrity of 3", api.Label{S: set(0), I: set(1)}, set(1, 2, 3)},
		{"more secrecy than 2, which is not in use", api.Label{S: set(0, 15), I: set(1, 2)}, set(1, 2)},
		{"all secrecy, all integrity", api.Label{S: all, I: all}, 0},
		{"all secrecy, the integrity of 2 and 9", api.Label{S: all, I: set(1, 2)}, set(1, 2, 9)},
		{"all secrecy, an integrity that only 1 has", api.Label{S: all, I: set(0)}, set(1)},
		{"all secrecy, an integrity that is not in use", api.Label{S: all, I: set(15)}, 0},
	}
	for _, c := range cases {
		if got := policy.Seen(p, c.l); got != c.want {
			t.Errorf("%s: %d, want %d", c.name, got, c.want)
		}
	}
}

// A role is visible only if it is live, also where its zero label flows into the label.
func TestRolesThatAreNotLiveAreNotSeen(t *testing.T) {
	for _, l := range []api.Label{bottom, top, {}, {S: all}} {
		if got := policy.Seen(noLive(all), l); got != 0 {
			t.Errorf("under %v: %d", l, got)
		}
	}
	p := noLive(all)
	p.Live = set(4, 11)
	if got := policy.Seen(p, api.Label{}); got != set(4, 11) {
		t.Errorf("roles with the zero label: %d", got)
	}
}

func TestSeenRoleByRole(t *testing.T) {
	each(func(p api.Policy, l api.Label) {
		if got, want := policy.Seen(p, l), visible(p, l); got != want {
			t.Fatalf("Seen(%v, %v) = %d, want %d", p, l, got, want)
		}
	})
	for _, p := range samples() {
		if got := policy.Seen(p, top); got != p.Live {
			t.Fatalf("Seen(%v, top) = %d", p, got)
		}
	}
}

func TestActsFor(t *testing.T) {
	p := small()
	both := api.Label{S: set(0), I: set(1)}
	cases := []struct {
		name string
		a, b int
		l    api.Label
		want bool
	}{
		{"directly", 1, 2, both, true},
		{"along the chain", 1, 3, both, true},
		{"along the chain, under the top label", 1, 3, top, true},
		{"along the chain, its middle not visible", 1, 3, p.Labels[3], false},
		{"along the chain, its middle not visible, little integrity", 1, 3, api.Label{}, false},
		{"along the chain, its end not visible", 1, 3, p.Labels[2], false},
		{"along the chain, but its end", 1, 2, p.Labels[2], true},
		{"the chain's other half", 2, 3, both, true},
		{"the chain's other half, its begin not visible", 2, 3, p.Labels[3], false},
		{"back", 2, 1, top, false},
		{"back along the chain", 3, 1, top, false},
		{"a longer chain", 9, 3, top, true},
		{"a longer chain, its begin not visible", 9, 3, both, false},
		{"for itself", 1, 1, both, true},
		{"for itself, not visible", 1, 1, bottom, false},
		{"for itself, at the end of the chain", 3, 3, both, true},
		{"for itself, not visible, though another one is", 9, 9, both, false},
		{"for itself, not live", 4, 4, top, false},
		{"from one that is not live", 0, 1, top, false},
		{"to one that is not live", 1, 0, top, false},
	}
	for _, c := range cases {
		if got := policy.ActsFor(p, c.a, c.b, c.l); got != c.want {
			t.Errorf("%s: %v", c.name, got)
		}
	}
}

func TestActsForWithoutRoles(t *testing.T) {
	for _, p := range samples() {
		for _, n := range noRoles {
			for r := range 16 {
				if policy.ActsFor(p, n, r, top) || policy.ActsFor(p, r, n, top) || policy.ActsFor(p, n, n, top) {
					t.Fatalf("%d is no role, but acts in %v", n, p)
				}
			}
		}
	}
}

func TestActsForAndCapsPathByPath(t *testing.T) {
	far, some := 0, 0
	each(func(p api.Policy, l api.Label) {
		q := pairsOf(p, l)
		for a := range 16 {
			for b := range 16 {
				if got := policy.ActsFor(p, a, b, l); got != q[a][b] {
					t.Fatalf("ActsFor(%v, %d, %d, %v) = %v", p, a, b, l, got)
				}
				if q[a][b] && a != b && !has(p.Acts[a], b) {
					far++
				}
			}
			want := capsOf(p, a, q)
			if got := policy.Caps(p, a, l); got != want {
				t.Fatalf("Caps(%v, %d, %v) = %d, want %d", p, a, l, got, want)
			}
			if want != 0 && want != ownedBy(p, 1<<a) {
				some++
			}
		}
	})
	if far < 1000 || some < 1000 {
		t.Fatalf("pairs along more than an edge: %d, capabilities by others: %d", far, some)
	}
}

func TestCaps(t *testing.T) {
	p := small()
	cases := []struct {
		name string
		role int
		l    api.Label
		want uint16
	}{
		{"along the chain", 1, api.Label{S: set(0), I: set(1)}, set(0, 1, 2, 3)},
		{"the middle is not visible", 1, p.Labels[3], set(0)},
		{"the end is not visible", 1, p.Labels[2], set(0, 1)},
		{"alone", 1, p.Labels[1], set(0)},
		{"not visible", 1, bottom, 0},
		{"the middle itself", 2, top, set(1, 2, 3)},
		{"the middle itself, not visible", 2, p.Labels[3], 0},
		{"the end", 3, top, set(2, 3)},
		{"all of them", 9, top, set(0, 1, 2, 3, 5)},
		{"not live", 4, top, 0},
		{"not live, at the end", 15, top, 0},
	}
	for _, c := range cases {
		if got := policy.Caps(p, c.role, c.l); got != c.want {
			t.Errorf("%s: %d, want %d", c.name, got, c.want)
		}
	}
	for _, p := range samples() {
		for _, n := range noRoles {
			if got := policy.Caps(p, n, top); got != 0 {
				t.Fatalf("Caps(%v, %d, top) = %d", p, n, got)
			}
		}
	}
}

// Tags without an owner, and tags that are not in use, are capabilities of no role, also of one that acts for all others.
func TestCapsOfTagsWithoutAnOwner(t *testing.T) {
	p := policy.First()
	p.Owner[5], p.Owner[15] = 16, 16
	for _, l := range []api.Label{bottom, top} {
		if got := policy.Caps(p, 0, l); got != all-set(5, 15) {
			t.Errorf("the tags 5 and 15 without an owner, under %v: %d", l, got)
		}
	}
	p.Active = all - set(15)
	p.Labels[0].I = p.Active
	if got := policy.Caps(p, 0, top); got != all-set(5, 15) {
		t.Errorf("the tag 15 not in use: %d", got)
	}
	for _, p := range samples() {
		for r := range 16 {
			p.Acts[r] = 0
			if has(p.Live, r) {
				p.Acts[r] = p.Live &^ set(r)
			}
		}
		var owned uint16
		for tag := range 16 {
			if p.Owner[tag] != 16 {
				owned |= 1 << tag
			}
		}
		for r := range 16 {
			want := owned
			if !has(p.Live, r) {
				want = 0
			}
			if got := policy.Caps(p, r, top); got != want || !inside(got, p.Active) {
				t.Fatalf("Caps(%v, %d, top) = %d, want %d", p, r, got, want)
			}
		}
	}
}

func TestOwned(t *testing.T) {
	p := small()
	cases := []struct{ roles, want uint16 }{
		{0, 0},
		{set(1), set(0)},
		{set(2), set(1)},
		{set(3), set(2, 3)},
		{set(9), set(5)},
		{set(1, 3), set(0, 2, 3)},
		{set(0, 4, 15), 0},
		{all - set(3), set(0, 1, 5)},
		{p.Live, set(0, 1, 2, 3, 5)},
		{all, set(0, 1, 2, 3, 5)},
	}
	for _, c := range cases {
		if got := policy.Owned(p, c.roles); got != c.want {
			t.Errorf("of %d: %d, want %d", c.roles, got, c.want)
		}
	}
	for _, roles := range []uint16{0, 1, 32768, all} {
		if got := policy.Owned(noLive(all), roles); got != 0 {
			t.Errorf("of %d, without owners: %d", roles, got)
		}
	}
}

func TestOwnedTagByTag(t *testing.T) {
	next := mixed()
	for _, p := range samples() {
		for _, roles := range []uint16{0, p.Live, all - p.Live, all} {
			if got, want := policy.Owned(p, roles), ownedBy(p, roles); got != want {
				t.Fatalf("Owned(%v, %d) = %d, want %d", p, roles, got, want)
			}
		}
		for r := range 16 {
			for _, roles := range []uint16{1 << r, all - 1<<r, uint16(next(65536))} {
				if got, want := policy.Owned(p, roles), ownedBy(p, roles); got != want {
					t.Fatalf("Owned(%v, %d) = %d, want %d", p, roles, got, want)
				}
			}
		}
	}
}

// P12.2: Mapped.

// same is the map that moves nothing.
func same() api.Map {
	var m api.Map
	for t := range m {
		m[t] = uint8(t)
	}
	return m
}

// image is the image of a set, tag by tag.
func image(m api.Map, s uint16) uint16 {
	var i uint16
	for t := range 16 {
		if has(s, t) {
			i |= 1 << m[t]
		}
	}
	return i
}

// mappedBy is Mapped by the words of the chapter.
func mappedBy(p api.Policy, m api.Map) api.Policy {
	for r := range 16 {
		p.Labels[r] = api.Label{S: image(m, p.Labels[r].S), I: image(m, p.Labels[r].I)}
	}
	for t := range 16 {
		if int(m[t]) != t {
			p.Active &^= 1 << t
			p.Owner[t] = 16
		}
	}
	return p
}

// mixedMap is a valid map in which only tags in use replace others.
func mixedMap(p api.Policy, next func(below int) int) api.Map {
	m := same()
	for t := range m {
		if to := next(16); next(3) == 0 && has(p.Active, to) && int(m[to]) == to && isOwnOnly(m, t) {
			m[t] = uint8(to)
		}
	}
	return m
}

// isOwnOnly tells whether a tag replaces itself and no other one.
func isOwnOnly(m api.Map, t int) bool {
	for from := range m {
		if (int(m[from]) == t) != (from == t) {
			return false
		}
	}
	return true
}

func TestMappedByTheMapThatMovesNothing(t *testing.T) {
	for _, p := range samples() {
		if got := policy.Mapped(p, same()); got != p {
			t.Fatalf("Mapped(%v) = %v", p, got)
		}
	}
}

func TestMappedOneTag(t *testing.T) {
	p := small()
	m := same()
	m[2] = 5
	want := p
	want.Active = set(0, 1, 3, 4, 5)
	want.Labels[1].I = set(0, 1, 3, 4, 5)
	want.Labels[2].I = set(1, 5)
	want.Labels[9] = api.Label{S: set(5), I: set(1, 5)}
	want.Owner[2] = 16
	if got := policy.Mapped(p, m); got != want {
		t.Errorf("5 for 2: %v, want %v", got, want)
	}
	// A secrecy, whose replacement has no owner and stays without one.
	m = same()
	m[0] = 4
	want = p
	want.Active = set(1, 2, 3, 4, 5)
	want.Labels[1].I = set(1, 2, 3, 4, 5)
	want.Labels[2].S = set(4)
	want.Owner[0] = 16
	if got := policy.Mapped(p, m); got != want {
		t.Errorf("4 for 0: %v, want %v", got, want)
	}
	// A tag that is not in use already.
	m = same()
	m[15] = 4
	if got := policy.Mapped(p, m); got != p {
		t.Errorf("4 for 15: %v, want %v", got, p)
	}
}

func TestMappedSeveralTags(t *testing.T) {
	p := small()
	m := same()
	m[0], m[1], m[2] = 5, 3, 3
	want := p
	want.Active = set(3, 4, 5)
	want.Labels[1].I = set(3, 4, 5)
	want.Labels[2] = api.Label{S: set(5), I: set(3)}
	want.Labels[3].I = set(3)
	want.Labels[9] = api.Label{S: set(5), I: set(3)}
	want.Owner = nobody()
	want.Owner[3], want.Owner[5] = 3, 9
	if got := policy.Mapped(p, m); got != want {
		t.Errorf("5 for 0, 3 for 1 and 2: %v, want %v", got, want)
	}
	// All tags but one.
	var one api.Map
	p = policy.First()
	want = p
	want.Active = 1
	want.Labels[0] = api.Label{I: 1}
	want.Owner = nobody()
	want.Owner[0] = 0
	if got := policy.Mapped(p, one); got != want {
		t.Errorf("0 for all: %v, want %v", got, want)
	}
}

func TestMappedFieldByField(t *testing.T) {
	next := mixed()
	moved := 0
	for _, p := range samples() {
		for range 40 {
			m := mixedMap(p, next)
			got, want := policy.Mapped(p, m), mappedBy(p, m)
			if got != want {
				t.Fatalf("Mapped(%v, %v) = %v, want %v", p, m, got, want)
			}
			if !policy.Fine(got) || !valid(got) {
				t.Fatalf("Mapped(%v, %v) = %v, which is not valid", p, m, got)
			}
			if got.Live != p.Live || got.Acts != p.Acts {
				t.Fatalf("Mapped(%v, %v) = %v: the roles are other ones", p, m, got)
			}
			if again := policy.Mapped(got, m); again != got {
				t.Fatalf("%v, mapped again by %v, is %v", got, m, again)
			}
			if got != p {
				moved++
			}
		}
	}
	if moved < 1000 {
		t.Fatalf("policies that a map changes: %d", moved)
	}
}

// P12.3: Bytes, Read.

func TestBytesByteByByte(t *testing.T) {
	none := "\x00\x00\x00\x00" + "\x10\x10\x10\x10\x10\x10\x10\x10\x10\x10\x10\x10\x10\x10\x10\x10"
	first := "\x00\x01" + "\x00\x00\xff\xff\x00\x00" + "\xff\xff" + "\x00\x00\x00\x00\x00\x00\x00\x00\x00\x00\x00\x00\x00\x00\x00\x00"
	some := "\x02\x0e" +
		"\x00\x00\x00\x3f\x00\x04" +
		"\x00\x01\x00\x06\x00\x08" +
		"\x00\x00\x00\x02\x00\x00" +
		"\x00\x20\x00\x06\x00\x02" +
		"\x00\x3f" +
		"\x01\x02\x03\x03\x10\x09\x10\x10\x10\x10\x10\x10\x10\x10\x10\x10"
	cases := []struct {
		name string
		p    api.Policy
		want string
	}{
		{"no role", noLive(0), none},
		{"one role", policy.First(), first},
		{"some roles", small(), some},
	}
	for _, c := range cases {
		if got := policy.Bytes(c.p); string(got) != c.want {
			t.Errorf("%s: %v, want %v", c.name, got, []byte(c.want))
		}
		checkRead(t, []byte(c.want), c.p, api.OK, 0)
	}
	every := policy.Bytes(allLive())
	if len(every) != 2+16*6+2+16 || !bytes.Equal(every, bytesOf(allLive())) {
		t.Errorf("all roles: %v", every)
	}
	checkRead(t, every, allLive(), api.OK, 0)
}

func TestBytesAndBack(t *testing.T) {
	for _, p := range samples() {
		b := policy.Bytes(p)
		if want := bytesOf(p); !bytes.Equal(b, want) {
			t.Fatalf("Bytes(%v) = %v, want %v", p, b, want)
		}
		checkRead(t, b, p, api.OK, 0)
	}
}

func TestReadOfEveryShorterBeginning(t *testing.T) {
	for _, p := range samples() {
		b := policy.Bytes(p)
		for n := range b {
			checkRead(t, b[:n], api.Policy{}, api.ErrEnd, 0)
		}
	}
}

func TestReadLeavesBytesBehind(t *testing.T) {
	for _, p := range samples() {
		b := policy.Bytes(p)
		for n := 1; n < 20; n++ {
			checkRead(t, append(bytes.Clone(b), make([]byte, n)...), p, api.OK, n)
		}
		r := wire.NewReader(append(append(b, policy.Bytes(small())...), 7))
		if one, two := policy.Read(r), policy.Read(r); one != p || two != small() {
			t.Fatalf("two policies behind each other: %v and %v", one, two)
		}
		if n := r.Num(1, 255); n != 7 || r.Err() != api.OK || r.Left() != 0 {
			t.Fatalf("behind two policies: %d, error %v", n, r.Err())
		}
	}
}

func TestReadOfAnOwnerAboveItsRange(t *testing.T) {
	for _, p := range samples()[:12] {
		good := policy.Bytes(p)
		for tag := range 16 {
			b := bytes.Clone(good)
			at := len(b) - 16 + tag
			for _, owner := range []byte{17, 18, 31, 32, 33, 127, 128, 255} {
				b[at] = owner
				checkRead(t, b, api.Policy{}, api.ErrRange, 0)
				// What is missing behind it was not asked for.
				checkRead(t, b[:at+1], api.Policy{}, api.ErrRange, 0)
				checkRead(t, b[:at], api.Policy{}, api.ErrEnd, 0)
			}
		}
	}
}

// A number that fails comes before the policy that is not valid, wherever it stands.
func TestReadNumbersFirst(t *testing.T) {
	p := small()
	p.Acts[1] = set(0)
	b := bytesOf(p)
	checkRead(t, b, api.Policy{}, api.ErrForm, 0)
	checkRead(t, append(b, 1, 2, 3), api.Policy{}, api.ErrForm, 0)
	checkRead(t, b[:len(b)-1], api.Policy{}, api.ErrEnd, 0)
	b[len(b)-1] = 17
	checkRead(t, b, api.Policy{}, api.ErrRange, 0)
}

func TestReadOfAPolicyThatIsNotValid(t *testing.T) {
	changes := []func(p *api.Policy){
		func(p *api.Policy) { p.Labels[1].S = set(6) },
		func(p *api.Policy) { p.Labels[9].I = set(15) },
		func(p *api.Policy) { p.Acts[2] = set(15) },
		func(p *api.Policy) { p.Acts[2] = set(2) },
		func(p *api.Policy) { p.Acts[9] |= set(9) },
		func(p *api.Policy) { p.Owner[4] = 0 },
		func(p *api.Policy) { p.Owner[6] = 1 },
		func(p *api.Policy) { p.Active = set(0, 1, 2, 3, 5) },
		func(p *api.Policy) { p.Active = 0 },
		func(p *api.Policy) { *p = api.Policy{} },
	}
	for i, change := range changes {
		p := small()
		change(&p)
		if policy.Fine(p) {
			t.Fatalf("change %d leaves the policy valid", i)
		}
		checkRead(t, bytesOf(p), api.Policy{}, api.ErrForm, 0)
	}
}

// The policy is zero, and the error that of a policy that is not valid, behind the errors of its numbers.
func TestReadOfARoleThatActsForItself(t *testing.T) {
	for r := range 16 {
		for _, c := range selfishOf(r) {
			checkRead(t, bytesOf(c.mended), c.mended, api.OK, 0)
			b := bytesOf(c.p)
			checkRead(t, b, api.Policy{}, api.ErrForm, 0)
			checkRead(t, append(bytes.Clone(b), 1, 2), api.Policy{}, api.ErrForm, 0)
			checkRead(t, b[:len(b)-1], api.Policy{}, api.ErrEnd, 0)
			b[len(b)-1] = 17
			checkRead(t, b, api.Policy{}, api.ErrRange, 0)
		}
	}
}

// Every byte of policies, with every value: some of them are policies too.
func TestReadByteByByte(t *testing.T) {
	count := map[api.Errno]int{}
	for _, p := range samples()[:14] {
		b := policy.Bytes(p)
		for i, was := range b {
			for n := range 256 {
				b[i] = byte(n)
				want, e, left := readOf(b)
				checkRead(t, b, want, e, left)
				count[e]++
			}
			b[i] = was
		}
	}
	for _, e := range []api.Errno{api.OK, api.ErrEnd, api.ErrForm, api.ErrRange} {
		if count[e] < 1000 {
			t.Errorf("error %d: %d times", e, count[e])
		}
	}
}

func TestReadByAReaderThatFailed(t *testing.T) {
	for _, e := range []api.Errno{api.ErrArg, api.ErrEnd, api.ErrMany, api.ErrForm, api.ErrRange, api.ErrDown} {
		for _, p := range samples()[:8] {
			r := wire.NewReader(policy.Bytes(p))
			r.Fail(e)
			if got := policy.Read(r); got != (api.Policy{}) || r.Err() != e || r.Left() != 0 {
				t.Fatalf("after the error %d: %v, error %v", e, got, r.Err())
			}
		}
	}
	// Its own errors stay as well.
	r := wire.NewReader(bytesOf(api.Policy{}))
	if got := policy.Read(r); got != (api.Policy{}) || r.Err() != api.ErrForm {
		t.Fatalf("a policy that is not valid: %v, error %v", got, r.Err())
	}
	if got := policy.Read(r); got != (api.Policy{}) || r.Err() != api.ErrForm {
		t.Fatalf("after it: %v, error %v", got, r.Err())
	}
	var none *wire.Reader
	if got := policy.Read(none); got != (api.Policy{}) || none.Err() != api.ErrNil {
		t.Fatalf("a nil Reader: %v", got)
	}
}

// P12.4: roles that are not visible under a label have no effect on what is computed under it.

// hidden are other policies in which only the roles that are not visible differ: they are gone with their tags' owners, or all act for all others, or have other labels, or own more tags.
func hidden(p api.Policy, l api.Label, next func(below int) int) []api.Policy {
	seen := visible(p, l)
	gone, busy, lost, rich := p, p, p, p
	gone.Live = seen
	for r := range 16 {
		// What a visible role may do to others is its own, but an edge to a role that is not live has to go.
		gone.Acts[r] &= seen
		lost.Acts[r] &= seen
		if has(p.Live&^seen, r) {
			gone.Acts[r], gone.Labels[r] = 0, api.Label{}
			others := p.Live &^ set(r)
			lost.Acts[r] = others & uint16(next(65536))
			busy.Acts[r], rich.Acts[r] = others, others
			// One secrecy more keeps a role from where it was not visible.
			rich.Labels[r].S |= p.Active
		} else if has(seen, r) {
			busy.Acts[r] |= p.Live &^ seen
		}
	}
	for t := range 16 {
		if o := p.Owner[t]; o < 16 && !has(seen, int(o)) {
			gone.Owner[t], lost.Owner[t] = 16, 16
		}
		if r := next(16); p.Owner[t] == 16 && has(p.Active, t) && has(p.Live&^seen, r) {
			rich.Owner[t] = uint8(r)
		}
	}
	return []api.Policy{gone, busy, lost, rich}
}

func TestRolesThatAreNotVisibleHaveNoEffect(t *testing.T) {
	next := mixed()
	others := 0
	each(func(p api.Policy, l api.Label) {
		for i, h := range hidden(p, l, next) {
			if !valid(h) {
				t.Fatalf("%d of %v under %v is not valid: %v", i, p, l, h)
			}
			if h != p {
				others++
			}
			if policy.Seen(h, l) != policy.Seen(p, l) {
				t.Fatalf("visible under %v: in %v and in %v", l, p, h)
			}
			for a := range 16 {
				if policy.Caps(h, a, l) != policy.Caps(p, a, l) {
					t.Fatalf("capabilities of %d under %v: in %v and in %v", a, l, p, h)
				}
				b := next(16)
				if policy.ActsFor(h, a, b, l) != policy.ActsFor(p, a, b, l) {
					t.Fatalf("whether %d acts for %d under %v: in %v and in %v", a, b, l, p, h)
				}
			}
		}
	})
	if others < 5000 {
		t.Fatalf("policies that differ in roles that are not visible: %d", others)
	}
}

// P12.5: if a label flows into another one, a role has at least as many capabilities under the latter.

func TestMoreIsVisibleAlongAFlow(t *testing.T) {
	more := 0
	for _, p := range samples() {
		l := labels(p)
		for _, a := range l {
			for _, b := range l {
				if !flows(a, b) {
					continue
				}
				if !inside(policy.Seen(p, a), policy.Seen(p, b)) {
					t.Fatalf("visible in %v: under %v, not under %v", p, a, b)
				}
				for r := range 16 {
					under, above := policy.Caps(p, r, a), policy.Caps(p, r, b)
					if !inside(under, above) {
						t.Fatalf("capabilities of %d in %v: %d under %v, %d under %v", r, p, under, a, above, b)
					}
					if under != above {
						more++
					}
				}
			}
		}
	}
	if more < 10000 {
		t.Fatalf("capabilities that became more: %d", more)
	}
}

// P12.6: a policy that was read has the bytes from which it was read.

func TestWhatWasReadHasItsBytes(t *testing.T) {
	next := mixed()
	read := 0
	for _, p := range samples() {
		good := append(policy.Bytes(p), 1, 2, 3)
		for range 300 {
			b := bytes.Clone(good)
			for range next(3) {
				b[next(len(b))] ^= 1 << next(8)
			}
			r := wire.NewReader(b)
			q := policy.Read(r)
			if r.Err() != api.OK {
				continue
			}
			read++
			if got := policy.Bytes(q); !bytes.Equal(got, b[:len(b)-r.Left()]) {
				t.Fatalf("%v was read from %v, but has the bytes %v", q, b, got)
			}
		}
	}
	if read < 5000 {
		t.Fatalf("policies that were read: %d", read)
	}
}

// R4: the arguments are left as they were, and results are new memory.

func TestArgumentsAreLeft(t *testing.T) {
	next := mixed()
	for _, p := range samples() {
		was, m := p, mixedMap(p, next)
		wasMap := m
		policy.Fine(p)
		policy.Seen(p, top)
		policy.ActsFor(p, 1, 2, top)
		policy.Caps(p, 1, top)
		policy.Owned(p, all)
		policy.Mapped(p, m)
		policy.Bytes(p)
		if p != was || m != wasMap {
			t.Fatalf("%v became %v, or %v became %v", was, p, wasMap, m)
		}
		b := policy.Bytes(p)
		wasBytes := bytes.Clone(b)
		q := policy.Read(wire.NewReader(b))
		if !bytes.Equal(b, wasBytes) {
			t.Fatalf("%v became %v", wasBytes, b)
		}
		clear(b)
		if q != was || !bytes.Equal(policy.Bytes(p), wasBytes) {
			t.Fatalf("the results of %v were changed", was)
		}
	}
}
