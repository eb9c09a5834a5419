package change_test

import (
	"bytes"
	"slices"
	"testing"

	"forepeak/api"
	"forepeak/change"
	"forepeak/policy"
	"forepeak/relabel"
	"forepeak/wire"
)

// The signatures are those of the chapter.
var (
	_ func(c api.Change) bool                                         = change.Fine
	_ func(p api.Policy, c api.Change) (api.Policy, api.Errno)        = change.One
	_ func(l []api.Change) api.Map                                    = change.Map
	_ func(p api.Policy, l []api.Change) (api.Policy, int, api.Errno) = change.All
	_ func(l []api.Change) []byte                                     = change.Bytes
	_ func(r *wire.Reader) []api.Change                               = change.Read
)

const all = 65535

var (
	bottom = api.Label{S: 0, I: all}
	top    = api.Label{S: all, I: 0}
)

// kinds are the kinds of changes, in order.
var kinds = []int{api.AddRole, api.DropRole, api.Link, api.Unlink, api.Own, api.Revoke}

// set is the set of some roles or tags, without any function of the program.
func set(members ...int) uint16 {
	var s uint16
	for _, m := range members {
		s |= 1 << m
	}
	return s
}

// has tells whether a role or tag is in a set, without any function of the program.
func has(s uint16, m int) bool { return 0 <= m && m < 16 && s>>m&1 == 1 }

// inside tells whether all members of a are in b, without any function of the program.
func inside(a, b uint16) bool { return a&b == a }

// flows tells whether a label flows into another one, without any function of the program.
func flows(a, b api.Label) bool { return inside(a.S, b.S) && inside(b.I, a.I) }

// mixed returns a source of numbers that look like any, the same ones in each run.
func mixed() func(below int) int {
	x := uint64(1)
	return func(below int) int {
		x = x*6364136223846793005 + 1442695040888963407
		return int(x>>33) % below
	}
}

// Short ways to write changes.

func add(role int, l api.Label) api.Change { return api.Change{Kind: api.AddRole, A: role, Label: l} }
func drop(role int) api.Change             { return api.Change{Kind: api.DropRole, A: role} }
func link(a, b int) api.Change             { return api.Change{Kind: api.Link, A: a, B: b} }
func unlink(a, b int) api.Change           { return api.Change{Kind: api.Unlink, A: a, B: b} }
func own(tag, role int) api.Change         { return api.Change{Kind: api.Own, A: tag, B: role} }
func revoke(tag, by int) api.Change        { return api.Change{Kind: api.Revoke, A: tag, B: by} }

// nobody are the owners of tags that have none.
func nobody() [16]uint8 {
	var owner [16]uint8
	for t := range owner {
		owner[t] = 16
	}
	return owner
}

// small is a policy with the roles 1, 2, 3 and 9 and the tags 0 to 5, in which 9 acts for 1, 1 for 2, and 2 for 3. Role 2 is not visible without the secrecy 0, and role 9 not without the secrecy 5. Tag 4 has no owner.
func small() api.Policy {
	p := api.Policy{Live: set(1, 2, 3, 9), Active: set(0, 1, 2, 3, 4, 5), Owner: nobody()}
	p.Labels[1] = api.Label{I: set(0, 1, 2, 3, 4, 5)}
	p.Labels[2] = api.Label{S: set(0), I: set(1, 2)}
	p.Labels[3] = api.Label{I: set(1)}
	p.Labels[9] = api.Label{S: set(5), I: set(1, 2)}
	p.Acts[1] = set(2)
	p.Acts[2] = set(3)
	p.Acts[9] = set(1)
	p.Owner[0], p.Owner[1], p.Owner[2], p.Owner[3] = 1, 2, 3, 3
	p.Owner[5] = 9
	return p
}

// noLive is the policy without live roles in which some tags are in use.
func noLive(active uint16) api.Policy {
	return api.Policy{Active: active, Owner: nobody()}
}

// allLive is the policy in which all roles are live, each acts for the next one and owns its tag, and role r has the secrecies below r.
func allLive() api.Policy {
	p := api.Policy{Live: all, Active: all}
	for r := range 16 {
		p.Labels[r] = api.Label{S: 1<<r - 1, I: all}
		p.Acts[r] = 1 << ((r + 1) % 16)
		p.Owner[r] = uint8(r)
	}
	return p
}

// busy is the policy in which all roles are live, and each acts for all others.
func busy() api.Policy {
	p := allLive()
	for r := range 16 {
		p.Acts[r] = all - set(r)
	}
	return p
}

// mixedPolicy is a valid policy. Its labels have few secrecies and much integrity, so that many of them flow into one another.
func mixedPolicy(next func(below int) int) api.Policy {
	p := api.Policy{Live: uint16(next(65536)), Active: uint16(next(65536) | next(65536)), Owner: nobody()}
	if next(4) == 0 {
		p.Live = all
	}
	if next(4) == 0 {
		p.Active = all
	}
	edges := 1 + next(3)
	for r := range 16 {
		if !has(p.Live, r) {
			continue
		}
		p.Labels[r] = api.Label{S: p.Active & set(next(16)) & uint16(-next(2)), I: p.Active &^ set(next(16))}
		for range edges {
			p.Acts[r] |= p.Live & set(next(16)) &^ set(r)
		}
	}
	for t := range 16 {
		if r := next(17); r < 16 && has(p.Active, t) && has(p.Live, r) {
			p.Owner[t] = uint8(r)
		}
	}
	return p
}

// samples are valid policies: with no, one, some and all roles live, with no, some and all tags in use, and mixed ones.
func samples() []api.Policy {
	l := []api.Policy{policy.First(), small(), allLive(), busy(), noLive(0), noLive(all), noLive(set(3))}
	next := mixed()
	for range 24 {
		l = append(l, mixedPolicy(next))
	}
	return l
}

// labels are the labels at the ends, those of the policy's roles and beside them, and mixed ones.
func labels(p api.Policy) []api.Label {
	l := []api.Label{bottom, top, {}, {S: all, I: all}, {S: p.Active}, {I: p.Active}, {S: 1, I: all - 1}}
	for r := range 16 {
		a := p.Labels[r]
		l = append(l, a, api.Label{S: a.S | set(r), I: a.I &^ set(15-r)})
	}
	next := mixed()
	for range 8 {
		l = append(l, api.Label{S: uint16(next(65536) & next(65536)), I: uint16(next(65536) & next(65536))})
	}
	return l
}

// fine is Fine by the words of the chapter.
func fine(c api.Change) bool {
	none := c.Label.S == 0 && c.Label.I == 0
	if c.A < 0 || 15 < c.A || c.B < 0 {
		return false
	}
	switch c.Kind {
	case api.AddRole:
		return c.B == 0
	case api.DropRole:
		return c.B == 0 && none
	case api.Link, api.Unlink, api.Revoke:
		return c.B <= 15 && none
	case api.Own:
		return c.B <= 16 && none
	}
	return false
}

// errOf is the error of a change by the words of the chapter.
func errOf(p api.Policy, c api.Change) api.Errno {
	if !fine(c) {
		return api.ErrForm
	}
	switch c.Kind {
	case api.AddRole:
		if has(p.Live, c.A) {
			return api.ErrThere
		}
		if !inside(c.Label.S, p.Active) || !inside(c.Label.I, p.Active) {
			return api.ErrRange
		}
	case api.DropRole:
		if !has(p.Live, c.A) {
			return api.ErrNone
		}
	case api.Link:
		if !has(p.Live, c.A) || !has(p.Live, c.B) {
			return api.ErrNone
		}
		if c.A == c.B {
			return api.ErrArg
		}
		if has(p.Acts[c.A], c.B) {
			return api.ErrThere
		}
	case api.Unlink:
		if !has(p.Acts[c.A], c.B) {
			return api.ErrNone
		}
	case api.Own:
		if !has(p.Active, c.A) || c.B != 16 && !has(p.Live, c.B) {
			return api.ErrNone
		}
	case api.Revoke:
		if !has(p.Active, c.A) || !has(p.Active, c.B) {
			return api.ErrNone
		}
		if c.A == c.B {
			return api.ErrArg
		}
	}
	return api.OK
}

// oneOf is One by the words of the chapter.
func oneOf(p api.Policy, c api.Change) (api.Policy, api.Errno) {
	if e := errOf(p, c); e != api.OK {
		return api.Policy{}, e
	}
	switch c.Kind {
	case api.AddRole:
		p.Live |= 1 << c.A
		p.Labels[c.A] = c.Label
	case api.DropRole:
		p.Live &^= 1 << c.A
		p.Labels[c.A] = api.Label{}
		p.Acts[c.A] = 0
		for i := range 16 {
			p.Acts[i] &^= 1 << c.A
			if int(p.Owner[i]) == c.A {
				p.Owner[i] = 16
			}
		}
	case api.Link:
		p.Acts[c.A] |= 1 << c.B
	case api.Unlink:
		p.Acts[c.A] &^= 1 << c.B
	case api.Own:
		p.Owner[c.A] = uint8(c.B)
	case api.Revoke:
		for r := range 16 {
			p.Labels[r].S = swap(p.Labels[r].S, c.A, c.B)
			p.Labels[r].I = swap(p.Labels[r].I, c.A, c.B)
		}
		p.Owner[c.A] = 16
		p.Active &^= 1 << c.A
	}
	return p, api.OK
}

// swap is a set in which a tag takes another one's place.
func swap(s uint16, from, to int) uint16 {
	if has(s, from) {
		s = s&^set(from) | set(to)
	}
	return s
}

// allOf is All by the words of the chapter.
func allOf(p api.Policy, l []api.Change) (api.Policy, int, api.Errno) {
	if len(l) == 0 {
		return api.Policy{}, 0, api.ErrArg
	}
	if len(l) > 6 {
		return api.Policy{}, 0, api.ErrMany
	}
	for i, c := range l {
		var e api.Errno
		p, e = oneOf(p, c)
		if e != api.OK {
			return api.Policy{}, i, e
		}
	}
	return p, len(l), api.OK
}

// mixedChange is a change that is valid most of the time, and has an effect on p often.
func mixedChange(p api.Policy, next func(below int) int) api.Change {
	c := api.Change{Kind: 1 + next(6), A: next(16)}
	switch c.Kind {
	case api.AddRole:
		c.Label = api.Label{S: uint16(next(65536)) & p.Active, I: uint16(next(65536)) & p.Active}
		if next(8) == 0 {
			c.Label.S |= set(next(16))
		}
	case api.Link, api.Unlink, api.Revoke:
		c.B = next(16)
	case api.Own:
		c.B = next(17)
	}
	if c.Kind == api.Unlink && has(p.Live, c.A) && next(2) == 0 {
		for b := range 16 {
			if has(p.Acts[c.A], b) {
				c.B = b
			}
		}
	}
	if next(24) == 0 {
		c.B += 17 - next(2)*18
	}
	return c
}

// mixedUpdate are one to six changes that All accepts. There are some for every policy, since one can always add a role or drop one.
func mixedUpdate(p api.Policy, next func(below int) int) []api.Change {
	var l []api.Change
	for n := 1 + next(6); len(l) < n; {
		c := mixedChange(p, next)
		if after, e := oneOf(p, c); e == api.OK {
			p, l = after, append(l, c)
		}
	}
	return l
}

// checkOne holds One against the wanted policy and error.
func checkOne(t *testing.T, name string, p api.Policy, c api.Change, want api.Policy, e api.Errno) {
	t.Helper()
	got, err := change.One(p, c)
	if got != want || err != e {
		t.Errorf("%s: One(%v, %v) = %v, %v, want %v, %v", name, p, c, got, err, want, e)
	}
}

// effectCase is a change of small, and what it does to it.
type effectCase struct {
	name string
	c    api.Change
	want func(p *api.Policy)
}

// checkEffects checks changes of small that have no error.
func checkEffects(t *testing.T, cases []effectCase) {
	t.Helper()
	for _, k := range cases {
		want := small()
		k.want(&want)
		if !policy.Fine(want) {
			t.Errorf("%s: what is wanted is not valid", k.name)
		}
		checkOne(t, k.name, small(), k.c, want, api.OK)
	}
}

// errorCase is a change of small, and its error.
type errorCase struct {
	name string
	c    api.Change
	e    api.Errno
}

// checkErrors checks changes of small that have an error.
func checkErrors(t *testing.T, cases []errorCase) {
	t.Helper()
	for _, k := range cases {
		checkOne(t, k.name, small(), k.c, api.Policy{}, k.e)
	}
}

// P13.1: Fine.

func TestFine(t *testing.T) {
	secret, trusted := api.Label{S: 1}, api.Label{I: 32768}
	cases := []struct {
		name string
		c    api.Change
		want bool
	}{
		{"nothing", api.Change{}, false},
		{"a kind below 1", api.Change{Kind: -1}, false},
		{"a kind far below 1", api.Change{Kind: -1 << 63}, false},
		{"a kind above 6", api.Change{Kind: 7}, false},
		{"a kind far above 6", api.Change{Kind: 1<<63 - 1}, false},
		{"a kind and 256", api.Change{Kind: 256 + 1}, false},
		{"the first kind", api.Change{Kind: 1}, true},
		{"the last kind", api.Change{Kind: 6}, true},
		{"AddRole, the first role", add(0, api.Label{}), true},
		{"AddRole, the last role", add(15, api.Label{}), true},
		{"AddRole, the bottom label", add(3, bottom), true},
		{"AddRole, the top label", add(3, top), true},
		{"AddRole, all tags twice", add(3, api.Label{S: all, I: all}), true},
		{"AddRole, B 1", api.Change{Kind: api.AddRole, A: 1, B: 1}, false},
		{"AddRole, B -1", api.Change{Kind: api.AddRole, A: 1, B: -1}, false},
		{"AddRole, B 16", api.Change{Kind: api.AddRole, A: 1, B: 16, Label: bottom}, false},
		{"DropRole, the first role", drop(0), true},
		{"DropRole, the last role", drop(15), true},
		{"DropRole, B 1", api.Change{Kind: api.DropRole, A: 1, B: 1}, false},
		{"DropRole, B -1", api.Change{Kind: api.DropRole, A: 1, B: -1}, false},
		{"DropRole, secrecy", api.Change{Kind: api.DropRole, A: 1, Label: secret}, false},
		{"DropRole, integrity", api.Change{Kind: api.DropRole, A: 1, Label: trusted}, false},
		{"Link, B 0", link(15, 0), true},
		{"Link, B 15", link(0, 15), true},
		{"Link, itself", link(4, 4), true},
		{"Link, B 16", link(0, 16), false},
		{"Link, B -1", link(0, -1), false},
		{"Link, secrecy", api.Change{Kind: api.Link, A: 1, Label: secret}, false},
		{"Link, integrity", api.Change{Kind: api.Link, A: 1, Label: trusted}, false},
		{"Unlink, B 0", unlink(15, 0), true},
		{"Unlink, B 15", unlink(0, 15), true},
		{"Unlink, B 16", unlink(0, 16), false},
		{"Unlink, B -1", unlink(0, -1), false},
		{"Unlink, secrecy", api.Change{Kind: api.Unlink, A: 1, Label: secret}, false},
		{"Unlink, integrity", api.Change{Kind: api.Unlink, A: 1, Label: trusted}, false},
		{"Own, B 0", own(15, 0), true},
		{"Own, B 15", own(0, 15), true},
		{"Own, B 16", own(0, 16), true},
		{"Own, B 17", own(0, 17), false},
		{"Own, B -1", own(0, -1), false},
		{"Own, secrecy", api.Change{Kind: api.Own, A: 1, Label: secret}, false},
		{"Own, integrity", api.Change{Kind: api.Own, A: 1, B: 16, Label: trusted}, false},
		{"Revoke, B 0", revoke(15, 0), true},
		{"Revoke, B 15", revoke(0, 15), true},
		{"Revoke, itself", revoke(4, 4), true},
		{"Revoke, B 16", revoke(0, 16), false},
		{"Revoke, B -1", revoke(0, -1), false},
		{"Revoke, secrecy", api.Change{Kind: api.Revoke, A: 1, Label: secret}, false},
		{"Revoke, integrity", api.Change{Kind: api.Revoke, A: 1, Label: trusted}, false},
	}
	for _, k := range cases {
		if got := change.Fine(k.c); got != k.want {
			t.Errorf("%s: %v", k.name, got)
		}
	}
}

// A change of each kind is valid for the numbers within its bounds, and for no others, one at a time.
func TestFineBreaksOnePartAtATime(t *testing.T) {
	mostB := map[int]int{api.AddRole: 0, api.DropRole: 0, api.Link: 15, api.Unlink: 15, api.Own: 16, api.Revoke: 15}
	far := []int{-1 << 63, -1 << 32, -65536, -256, 256, 257, 65536, 1 << 32, 1<<63 - 1}
	for _, kind := range kinds {
		good := api.Change{Kind: kind, A: 7}
		for n := -40; n <= 300; n++ {
			a, b, k := good, good, good
			a.A, b.B, k.Kind = n, n, n
			if got := change.Fine(a); got != (0 <= n && n <= 15) {
				t.Errorf("kind %d, A %d: %v", kind, n, got)
			}
			if got := change.Fine(b); got != (0 <= n && n <= mostB[kind]) {
				t.Errorf("kind %d, B %d: %v", kind, n, got)
			}
			if got := change.Fine(k); got != (1 <= n && n <= 6) {
				t.Errorf("kind %d: %v", n, got)
			}
		}
		for _, n := range far {
			for _, c := range []api.Change{{Kind: kind, A: n}, {Kind: kind, B: n}, {Kind: n, A: 7}} {
				if change.Fine(c) {
					t.Errorf("%v is valid", c)
				}
			}
		}
		for bit := range 16 {
			for _, l := range []api.Label{{S: 1 << bit}, {I: 1 << bit}, {S: 1 << bit, I: all}} {
				c := good
				c.Label = l
				if got := change.Fine(c); got != (kind == api.AddRole) {
					t.Errorf("%v: %v", c, got)
				}
			}
		}
	}
}

func TestFineByTheWordsOfTheChapter(t *testing.T) {
	count := map[bool]int{}
	for kind := -2; kind < 10; kind++ {
		for a := -2; a < 19; a++ {
			for b := -2; b < 19; b++ {
				for _, l := range []api.Label{{}, {S: 4}, {I: 8}, bottom, top} {
					c := api.Change{Kind: kind, A: a, B: b, Label: l}
					if got, want := change.Fine(c), fine(c); got != want {
						t.Fatalf("Fine(%v) = %v", c, got)
					}
					count[fine(c)]++
				}
			}
		}
	}
	// AddRole with 5 labels, DropRole, three kinds with two numbers, and Own.
	if want := 16*5 + 16 + 3*16*16 + 16*17; count[true] != want {
		t.Fatalf("valid changes: %d, want %d", count[true], want)
	}
}

// P13.1: One.

func TestAddRole(t *testing.T) {
	checkEffects(t, []effectCase{
		{"the empty label", add(0, api.Label{}), func(p *api.Policy) { p.Live |= set(0) }},
		{"the last role", add(15, api.Label{S: set(0, 5), I: set(1)}), func(p *api.Policy) {
			p.Live |= set(15)
			p.Labels[15] = api.Label{S: set(0, 5), I: set(1)}
		}},
		{"all tags in use", add(4, api.Label{S: 63, I: 63}), func(p *api.Policy) {
			p.Live |= set(4)
			p.Labels[4] = api.Label{S: 63, I: 63}
		}},
		{"a tag without an owner", add(8, api.Label{S: set(4)}), func(p *api.Policy) {
			p.Live |= set(8)
			p.Labels[8] = api.Label{S: set(4)}
		}},
	})
	checkErrors(t, []errorCase{
		{"a live role", add(1, api.Label{}), api.ErrThere},
		{"a live role, with its own label", add(2, small().Labels[2]), api.ErrThere},
		{"a live role, and a secrecy that is not in use", add(9, api.Label{S: set(6)}), api.ErrThere},
		{"a live role, and an integrity that is not in use", add(3, bottom), api.ErrThere},
		{"a secrecy that is not in use", add(0, api.Label{S: set(6)}), api.ErrRange},
		{"a secrecy that is not in use, beside others", add(0, api.Label{S: set(0, 1, 15), I: set(1)}), api.ErrRange},
		{"an integrity that is not in use", add(0, api.Label{I: set(15)}), api.ErrRange},
		{"an integrity that is not in use, beside others", add(15, api.Label{S: set(1), I: set(0, 1, 6)}), api.ErrRange},
		{"the bottom label", add(0, bottom), api.ErrRange},
		{"the top label", add(0, top), api.ErrRange},
	})
	for _, l := range []api.Label{{}, bottom, top, {S: all, I: all}} {
		for r := 1; r < 16; r++ {
			want := policy.First()
			want.Live = set(0, r)
			want.Labels[r] = l
			checkOne(t, "to the first policy", policy.First(), add(r, l), want, api.OK)
		}
	}
}

func TestAddRoleTagByTag(t *testing.T) {
	for tag := range 16 {
		e := api.ErrRange
		if tag <= 5 {
			e = api.OK
		}
		for _, l := range []api.Label{{S: 1 << tag}, {I: 1 << tag}, {S: 1 << tag, I: 63}, {S: 63, I: 1 << tag}} {
			var want api.Policy
			if e == api.OK {
				want = small()
				want.Live |= set(7)
				want.Labels[7] = l
			}
			checkOne(t, "a tag", small(), add(7, l), want, e)
		}
	}
}

func TestDropRole(t *testing.T) {
	checkEffects(t, []effectCase{
		{"one acts for it, it acts for one, and owns one tag", drop(2), func(p *api.Policy) {
			p.Live = set(1, 3, 9)
			p.Labels[2] = api.Label{}
			p.Acts[1], p.Acts[2] = 0, 0
			p.Owner[1] = 16
		}},
		{"it acts for none, and owns two tags", drop(3), func(p *api.Policy) {
			p.Live = set(1, 2, 9)
			p.Labels[3] = api.Label{}
			p.Acts[2] = 0
			p.Owner[2], p.Owner[3] = 16, 16
		}},
		{"none acts for it", drop(9), func(p *api.Policy) {
			p.Live = set(1, 2, 3)
			p.Labels[9] = api.Label{}
			p.Acts[9] = 0
			p.Owner[5] = 16
		}},
	})
	checkErrors(t, []errorCase{
		{"the first role, not live", drop(0), api.ErrNone},
		{"the last role, not live", drop(15), api.ErrNone},
		{"a role between live ones", drop(4), api.ErrNone},
	})
	checkOne(t, "the only role", policy.First(), drop(0), noLive(all), api.OK)
	checkOne(t, "none is live", noLive(all), drop(0), api.Policy{}, api.ErrNone)
}

// All others act for the role, it acts for all others, and owns as many tags as it may.
func TestDropRoleOfManyTies(t *testing.T) {
	for r := range 16 {
		p := busy()
		for tag := range 16 {
			if tag%2 == 0 {
				p.Owner[tag] = uint8(r)
			}
		}
		want := p
		want.Live = all - set(r)
		want.Labels[r] = api.Label{}
		for other := range 16 {
			want.Acts[other] = all - set(r, other)
			if int(p.Owner[other]) == r {
				want.Owner[other] = 16
			}
		}
		want.Acts[r] = 0
		checkOne(t, "many ties", p, drop(r), want, api.OK)
	}
}

func TestLink(t *testing.T) {
	checkEffects(t, []effectCase{
		{"a role that acts for none", link(3, 1), func(p *api.Policy) { p.Acts[3] = set(1) }},
		{"a role that acts for another one", link(1, 9), func(p *api.Policy) { p.Acts[1] = set(2, 9) }},
		{"back", link(2, 1), func(p *api.Policy) { p.Acts[2] = set(1, 3) }},
		{"a role for which it acts by another one", link(1, 3), func(p *api.Policy) { p.Acts[1] = set(2, 3) }},
	})
	checkErrors(t, []errorCase{
		{"itself", link(1, 1), api.ErrArg},
		{"itself, at the end", link(9, 9), api.ErrArg},
		{"itself, not live", link(0, 0), api.ErrNone},
		{"itself, not live, at the end", link(15, 15), api.ErrNone},
		{"A is not live", link(0, 1), api.ErrNone},
		{"B is not live", link(1, 15), api.ErrNone},
		{"neither is live", link(4, 5), api.ErrNone},
		{"twice", link(1, 2), api.ErrThere},
		{"twice, at the end", link(9, 1), api.ErrThere},
	})
	once, e := change.One(small(), link(3, 9))
	if e != api.OK {
		t.Fatalf("Link: %v", e)
	}
	checkOne(t, "again", once, link(3, 9), api.Policy{}, api.ErrThere)
}

func TestUnlink(t *testing.T) {
	checkEffects(t, []effectCase{
		{"the only one", unlink(1, 2), func(p *api.Policy) { p.Acts[1] = 0 }},
		{"at the end", unlink(9, 1), func(p *api.Policy) { p.Acts[9] = 0 }},
	})
	checkErrors(t, []errorCase{
		{"nothing is linked", unlink(3, 1), api.ErrNone},
		{"the other way round", unlink(2, 1), api.ErrNone},
		{"a role for which it acts by another one", unlink(1, 3), api.ErrNone},
		{"itself", unlink(1, 1), api.ErrNone},
		{"A is not live", unlink(0, 1), api.ErrNone},
		{"B is not live", unlink(1, 0), api.ErrNone},
		{"neither is live", unlink(15, 15), api.ErrNone},
	})
	for a := range 16 {
		for b := range 16 {
			if a == b {
				continue
			}
			want := busy()
			want.Acts[a] = all - set(a, b)
			checkOne(t, "among many", busy(), unlink(a, b), want, api.OK)
			checkOne(t, "again", want, unlink(a, b), api.Policy{}, api.ErrNone)
		}
	}
}

func TestOwn(t *testing.T) {
	checkEffects(t, []effectCase{
		{"another role", own(0, 9), func(p *api.Policy) { p.Owner[0] = 9 }},
		{"none any more", own(0, 16), func(p *api.Policy) { p.Owner[0] = 16 }},
		{"a tag that has none gets one", own(4, 3), func(p *api.Policy) { p.Owner[4] = 3 }},
		{"a tag that has none gets none", own(4, 16), func(p *api.Policy) {}},
		{"its owner again", own(5, 9), func(p *api.Policy) {}},
	})
	checkErrors(t, []errorCase{
		{"a role that is not live", own(0, 0), api.ErrNone},
		{"a role that is not live, at the end", own(4, 15), api.ErrNone},
		{"a tag that is not in use, to a role", own(6, 1), api.ErrNone},
		{"a tag that is not in use, to none", own(15, 16), api.ErrNone},
		{"a tag that is not in use, to a role that is not live", own(6, 0), api.ErrNone},
	})
	for tag := range 16 {
		want := noLive(all)
		checkOne(t, "no role is live, to none", noLive(all), own(tag, 16), want, api.OK)
		for r := range 16 {
			checkOne(t, "no role is live", noLive(all), own(tag, r), api.Policy{}, api.ErrNone)
			want := allLive()
			want.Owner[tag] = uint8(r)
			checkOne(t, "all roles are live", allLive(), own(tag, r), want, api.OK)
		}
	}
}

func TestRevoke(t *testing.T) {
	checkEffects(t, []effectCase{
		{"an integrity", revoke(2, 5), func(p *api.Policy) {
			p.Active = set(0, 1, 3, 4, 5)
			p.Labels[1].I = set(0, 1, 3, 4, 5)
			p.Labels[2].I = set(1, 5)
			p.Labels[9].I = set(1, 5)
			p.Owner[2] = 16
		}},
		{"a secrecy, by a tag without an owner", revoke(0, 4), func(p *api.Policy) {
			p.Active = set(1, 2, 3, 4, 5)
			p.Labels[1].I = set(1, 2, 3, 4, 5)
			p.Labels[2].S = set(4)
			p.Owner[0] = 16
		}},
		{"a tag without an owner", revoke(4, 0), func(p *api.Policy) {
			p.Active = set(0, 1, 2, 3, 5)
			p.Labels[1].I = set(0, 1, 2, 3, 5)
		}},
		{"labels have both tags", revoke(1, 2), func(p *api.Policy) {
			p.Active = set(0, 2, 3, 4, 5)
			p.Labels[1].I = set(0, 2, 3, 4, 5)
			p.Labels[2].I = set(2)
			p.Labels[3].I = set(2)
			p.Labels[9].I = set(2)
			p.Owner[1] = 16
		}},
		{"a tag of one owner by another one", revoke(3, 2), func(p *api.Policy) {
			p.Active = set(0, 1, 2, 4, 5)
			p.Labels[1].I = set(0, 1, 2, 4, 5)
			p.Owner[3] = 16
		}},
	})
	checkErrors(t, []errorCase{
		{"by itself", revoke(1, 1), api.ErrArg},
		{"by itself, without an owner", revoke(4, 4), api.ErrArg},
		{"by itself, not in use", revoke(6, 6), api.ErrNone},
		{"by itself, not in use, at the end", revoke(15, 15), api.ErrNone},
		{"of one that is not in use", revoke(6, 1), api.ErrNone},
		{"by one that is not in use", revoke(1, 15), api.ErrNone},
		{"neither is in use", revoke(6, 15), api.ErrNone},
	})
}

// What was revoked is not in use, so that nothing can be done with it any more.
func TestBehindARevoke(t *testing.T) {
	p, e := change.One(policy.First(), revoke(2, 5))
	if e != api.OK {
		t.Fatalf("Revoke: %v", e)
	}
	if p.Active != all-set(2) || p.Owner[2] != 16 || p.Owner[5] != 0 || p.Labels[0] != (api.Label{I: all - set(2)}) {
		t.Fatalf("behind the Revoke: %v", p)
	}
	cases := []errorCase{
		{"again", revoke(2, 5), api.ErrNone},
		{"by it", revoke(5, 2), api.ErrNone},
		{"by itself", revoke(2, 2), api.ErrNone},
		{"to a role", own(2, 0), api.ErrNone},
		{"to none", own(2, 16), api.ErrNone},
		{"in a label's secrecy", add(1, api.Label{S: set(2)}), api.ErrRange},
		{"in a label's integrity", add(1, bottom), api.ErrRange},
	}
	for _, k := range cases {
		checkOne(t, k.name, p, k.c, api.Policy{}, k.e)
	}
}

// A change that is not valid is ErrForm, ahead of every error of its effect, and also where the effect has none.
func TestOneOfAChangeThatIsNotValid(t *testing.T) {
	bad := []api.Change{{}, {Kind: -1}, {Kind: 7}, {Kind: 257}, {Kind: 1 << 40}, {Kind: -1 << 63}}
	for _, kind := range kinds {
		for _, n := range []int{-1 << 63, -17, -1, 17, 18, 64, 255, 256, 1<<63 - 1} {
			bad = append(bad, api.Change{Kind: kind, A: n}, api.Change{Kind: kind, B: n}, api.Change{Kind: kind, A: 1, B: n})
		}
		bad = append(bad, api.Change{Kind: kind, A: 16}, api.Change{Kind: kind, A: 16, B: 1})
		if kind != api.Own {
			bad = append(bad, api.Change{Kind: kind, B: 16}, api.Change{Kind: kind, A: 1, B: 16})
		}
		if kind != api.AddRole {
			bad = append(bad, api.Change{Kind: kind, Label: api.Label{S: 1}}, api.Change{Kind: kind, A: 1, Label: api.Label{I: 1}})
		}
	}
	for r := range 16 {
		for b := 1; b < 17; b++ {
			bad = append(bad, api.Change{Kind: api.AddRole, A: r, B: b}, api.Change{Kind: api.DropRole, A: r, B: b})
		}
	}
	for _, p := range samples() {
		for _, c := range bad {
			checkOne(t, "not valid", p, c, api.Policy{}, api.ErrForm)
		}
	}
}

// Every change of small numbers, on every sample.
func TestOneByTheWordsOfTheChapter(t *testing.T) {
	type result struct {
		kind int
		e    api.Errno
	}
	count := map[result]int{}
	for _, p := range samples() {
		for kind := range 8 {
			for a := -1; a < 17; a++ {
				for b := -1; b < 18; b++ {
					for _, l := range []api.Label{{}, {S: 4, I: 8}, bottom, p.Labels[1]} {
						c := api.Change{Kind: kind, A: a, B: b, Label: l}
						want, e := oneOf(p, c)
						got, err := change.One(p, c)
						if got != want || err != e {
							t.Fatalf("One(%v, %v) = %v, %v, want %v, %v", p, c, got, err, want, e)
						}
						count[result{kind, e}]++
					}
				}
			}
		}
	}
	results := []result{
		{api.AddRole, api.OK}, {api.AddRole, api.ErrThere}, {api.AddRole, api.ErrRange},
		{api.DropRole, api.OK}, {api.DropRole, api.ErrNone},
		{api.Link, api.OK}, {api.Link, api.ErrNone}, {api.Link, api.ErrArg}, {api.Link, api.ErrThere},
		{api.Unlink, api.OK}, {api.Unlink, api.ErrNone},
		{api.Own, api.OK}, {api.Own, api.ErrNone},
		{api.Revoke, api.OK}, {api.Revoke, api.ErrNone}, {api.Revoke, api.ErrArg},
	}
	for _, r := range results {
		if count[r] < 100 {
			t.Errorf("kind %d, error %d: %d times", r.kind, r.e, count[r])
		}
	}
}

// P13.2: All.

// checkAll holds All against the wanted policy, number and error.
func checkAll(t *testing.T, p api.Policy, l []api.Change, want api.Policy, n int, e api.Errno) {
	t.Helper()
	got, number, err := change.All(p, l)
	if got != want || number != n || err != e {
		t.Errorf("All(%v, %v) = %v, %d, %v, want %v, %d, %v", p, l, got, number, err, want, n, e)
	}
}

func TestExampleOfTheChapter(t *testing.T) {
	p, n, e := change.All(policy.First(), []api.Change{add(1, api.Label{}), link(1, 0)})
	if n != 2 || e != api.OK {
		t.Fatalf("%d, %v", n, e)
	}
	if c := policy.Caps(p, 1, top); c != all {
		t.Errorf("role 1 under the top label: %d", c)
	}
	want := policy.First()
	want.Live = 3
	want.Acts[1] = 1
	if p != want {
		t.Errorf("the policy is %v", p)
	}
}

func TestAllOfNoAndTooManyChanges(t *testing.T) {
	for _, p := range samples() {
		checkAll(t, p, nil, api.Policy{}, 0, api.ErrArg)
		checkAll(t, p, []api.Change{}, api.Policy{}, 0, api.ErrArg)
		for _, n := range []int{7, 8, 12, 255, 256, 257, 300} {
			// Of changes that are all accepted, of such that fail, and of such that are not valid.
			checkAll(t, p, slices.Repeat([]api.Change{own(0, 16)}, n), api.Policy{}, 0, api.ErrMany)
			checkAll(t, p, slices.Repeat([]api.Change{unlink(0, 0)}, n), api.Policy{}, 0, api.ErrMany)
			checkAll(t, p, make([]api.Change, n), api.Policy{}, 0, api.ErrMany)
		}
	}
}

// six are changes of small that are accepted in their order.
func six() []api.Change {
	return []api.Change{add(0, api.Label{S: set(2), I: set(3)}), link(0, 9), revoke(2, 4), own(4, 0), unlink(1, 2), drop(3)}
}

// afterSix is small behind the first n of these changes.
func afterSix(n int) api.Policy {
	p := small()
	effects := []func(){
		func() {
			p.Live |= set(0)
			p.Labels[0] = api.Label{S: set(2), I: set(3)}
		},
		func() { p.Acts[0] = set(9) },
		func() {
			p.Active = set(0, 1, 3, 4, 5)
			p.Labels[0].S = set(4)
			p.Labels[1].I = set(0, 1, 3, 4, 5)
			p.Labels[2].I = set(1, 4)
			p.Labels[9].I = set(1, 4)
			p.Owner[2] = 16
		},
		func() { p.Owner[4] = 0 },
		func() { p.Acts[1] = 0 },
		func() {
			p.Live = set(0, 1, 2, 9)
			p.Labels[3] = api.Label{}
			p.Acts[2] = 0
			p.Owner[3] = 16
		},
	}
	for _, effect := range effects[:n] {
		effect()
	}
	return p
}

func TestAllOfOneToSixChanges(t *testing.T) {
	for n := 1; n <= 6; n++ {
		checkAll(t, small(), six()[:n], afterSix(n), n, api.OK)
	}
	for _, p := range samples() {
		for _, kind := range kinds {
			for a := range 16 {
				c := api.Change{Kind: kind, A: a, B: 0}
				want, e := oneOf(p, c)
				n := 1
				if e != api.OK {
					n = 0
				}
				checkAll(t, p, []api.Change{c}, want, n, e)
			}
		}
	}
}

// failing are changes that fail before, among and behind the six changes.
func failing() []errorCase {
	return []errorCase{
		{"AddRole of a live role", add(1, api.Label{}), api.ErrThere},
		{"AddRole with a tag that is not in use", add(15, api.Label{S: set(15)}), api.ErrRange},
		{"DropRole", drop(15), api.ErrNone},
		{"Link, not live", link(15, 1), api.ErrNone},
		{"Link of a role to itself", link(1, 1), api.ErrArg},
		{"Link, twice", link(9, 1), api.ErrThere},
		{"Unlink", unlink(9, 2), api.ErrNone},
		{"Own", own(15, 1), api.ErrNone},
		{"Revoke, not in use", revoke(0, 15), api.ErrNone},
		{"Revoke of a tag by itself", revoke(0, 0), api.ErrArg},
		{"no change", api.Change{}, api.ErrForm},
		{"not valid", own(0, 17), api.ErrForm},
		{"not valid, and it would fail", api.Change{Kind: api.DropRole, A: 15, B: 1}, api.ErrForm},
	}
}

func TestAllWithAChangeThatFails(t *testing.T) {
	for _, k := range failing() {
		for n := 1; n <= 6; n++ {
			for at := range n {
				l := six()[:n]
				l[at] = k.c
				checkAll(t, small(), l, api.Policy{}, at, k.e)
			}
		}
	}
}

// The first change that fails counts, whatever the changes behind it are.
func TestAllWithChangesThatFail(t *testing.T) {
	for _, one := range failing() {
		for _, two := range failing() {
			for at := range 5 {
				l := six()
				l[at] = one.c
				for i := at + 1; i < 6; i++ {
					l[i] = two.c
				}
				checkAll(t, small(), l, api.Policy{}, at, one.e)
			}
		}
	}
}

// Each change is applied to what the ones before it left.
func TestAllInOrder(t *testing.T) {
	p := policy.First()
	cases := []struct {
		name string
		l    []api.Change
		n    int
		e    api.Errno
	}{
		{"a role is linked before it comes", []api.Change{link(1, 0), add(1, bottom)}, 0, api.ErrNone},
		{"a role comes twice", []api.Change{add(1, bottom), add(1, bottom)}, 1, api.ErrThere},
		{"a role comes, goes, and comes", []api.Change{add(1, bottom), drop(1), add(1, top)}, 3, api.OK},
		{"a role goes twice", []api.Change{drop(0), drop(0)}, 1, api.ErrNone},
		{"a role gets a tag and goes", []api.Change{add(1, bottom), own(3, 1), drop(1), own(3, 1)}, 3, api.ErrNone},
		{"a link goes with its role", []api.Change{add(1, bottom), link(1, 0), drop(1), add(1, bottom), unlink(1, 0)}, 4, api.ErrNone},
		{"a link to a role goes with it", []api.Change{add(1, bottom), link(0, 1), drop(1), add(1, bottom), unlink(0, 1)}, 4, api.ErrNone},
		{"a label has a tag that is revoked before", []api.Change{revoke(2, 5), add(1, api.Label{S: set(2)})}, 1, api.ErrRange},
		{"a label has a tag that is revoked later", []api.Change{add(1, api.Label{S: set(2)}), revoke(2, 5)}, 2, api.OK},
		{"a tag is revoked by one that is revoked before", []api.Change{revoke(2, 5), revoke(3, 2)}, 1, api.ErrNone},
		{"a tag is revoked twice", []api.Change{revoke(2, 5), revoke(2, 6)}, 1, api.ErrNone},
		{"a tag is revoked by one that is revoked later", []api.Change{revoke(2, 5), revoke(5, 7)}, 2, api.OK},
		{"linked, unlinked, and linked, and unlinked", []api.Change{add(1, top), link(1, 0), unlink(1, 0), link(1, 0), unlink(1, 0), unlink(1, 0)}, 5, api.ErrNone},
	}
	for _, k := range cases {
		want, n, e := allOf(p, k.l)
		if n != k.n || e != k.e {
			t.Errorf("%s: the model has %d, %v", k.name, n, e)
		}
		checkAll(t, p, k.l, want, k.n, k.e)
	}
}

func TestAllByTheWordsOfTheChapter(t *testing.T) {
	next := mixed()
	count := map[api.Errno]int{}
	for _, p := range samples() {
		for range 1000 {
			l := mixedUpdate(p, next)
			if next(2) == 0 {
				l[next(len(l))] = mixedChange(p, next)
			}
			if next(16) == 0 {
				l = append(append(l, l...), l...)
			}
			want, n, e := allOf(p, l)
			checkAll(t, p, l, want, n, e)
			count[e]++
			if t.Failed() {
				return
			}
		}
	}
	for _, e := range []api.Errno{api.OK, api.ErrForm, api.ErrMany, api.ErrNone, api.ErrThere, api.ErrRange} {
		if count[e] < 100 {
			t.Errorf("error %d: %d times", e, count[e])
		}
	}
}

// P13.2: Map.

// same is the map that moves nothing.
func same() api.Map {
	var m api.Map
	for t := range m {
		m[t] = uint8(t)
	}
	return m
}

// moved is the map that moves nothing but the tags that are told, each to the one behind it.
func moved(pairs ...uint8) api.Map {
	m := same()
	for i := 0; i < len(pairs); i += 2 {
		m[pairs[i]] = pairs[i+1]
	}
	return m
}

func TestMap(t *testing.T) {
	cases := []struct {
		name string
		l    []api.Change
		want api.Map
	}{
		{"no change", nil, same()},
		{"changes of other kinds", []api.Change{add(1, bottom), link(1, 0), own(2, 5), unlink(1, 0), drop(1)}, same()},
		{"one", []api.Change{revoke(2, 5)}, moved(2, 5)},
		{"one, at the ends", []api.Change{revoke(0, 15)}, moved(0, 15)},
		{"one, at the ends, the other way round", []api.Change{revoke(15, 0)}, moved(15, 0)},
		{"one among others", []api.Change{add(1, bottom), revoke(2, 5), own(5, 1)}, moved(2, 5)},
		{"two", []api.Change{revoke(2, 5), revoke(3, 6)}, moved(2, 5, 3, 6)},
		{"two by the same one", []api.Change{revoke(2, 5), revoke(3, 5)}, moved(2, 5, 3, 5)},
		{"the one that took a place is moved", []api.Change{revoke(2, 5), revoke(5, 7)}, moved(2, 7, 5, 7)},
		{"and again", []api.Change{revoke(2, 5), revoke(5, 7), revoke(7, 0)}, moved(2, 0, 5, 0, 7, 0)},
		{"with others between", []api.Change{revoke(2, 5), drop(3), revoke(3, 5), link(5, 7), revoke(5, 7), own(7, 16)}, moved(2, 7, 3, 7, 5, 7)},
		{"six", []api.Change{revoke(0, 1), revoke(1, 2), revoke(2, 3), revoke(3, 4), revoke(4, 5), revoke(5, 6)}, moved(0, 6, 1, 6, 2, 6, 3, 6, 4, 6, 5, 6)},
		{"six, the other way round", []api.Change{revoke(5, 6), revoke(4, 6), revoke(3, 6), revoke(2, 6), revoke(1, 6), revoke(0, 6)}, moved(0, 6, 1, 6, 2, 6, 3, 6, 4, 6, 5, 6)},
	}
	for _, k := range cases {
		if got := change.Map(k.l); got != k.want {
			t.Errorf("%s: %v, want %v", k.name, got, k.want)
		}
	}
}

// A Revoke that layer 4's Move rejects is skipped, and those behind it are not.
func TestMapSkipsWhatMoveRejects(t *testing.T) {
	rejected := []api.Change{revoke(2, 7), revoke(2, 5), revoke(2, 2), revoke(3, 2), revoke(5, 2), revoke(4, 4), revoke(16, 4), revoke(4, 16), revoke(-1, 4), revoke(4, -1)}
	for _, c := range rejected {
		if _, e := relabel.Move(moved(2, 5), c.A, c.B); e == api.OK {
			t.Fatalf("Move takes %v", c)
		}
		if got := change.Map([]api.Change{revoke(2, 5), c}); got != moved(2, 5) {
			t.Errorf("behind it, %v: %v", c, got)
		}
		if got := change.Map([]api.Change{revoke(2, 5), c, revoke(8, 9)}); got != moved(2, 5, 8, 9) {
			t.Errorf("between, %v: %v", c, got)
		}
	}
}

// Each tag is followed on its own, along the Revoke changes of updates that All accepts.
func TestMapTagByTag(t *testing.T) {
	next := mixed()
	long, chains := 0, 0
	for _, p := range samples() {
		for range 500 {
			l := mixedUpdate(p, next)
			var want api.Map
			var places uint16
			for tag := range want {
				at := tag
				for _, c := range l {
					if c.Kind == api.Revoke && c.A == at {
						at = c.B
					}
				}
				want[tag] = uint8(at)
			}
			for _, c := range l {
				if c.Kind == api.Revoke {
					if has(places, c.A) {
						chains++
					}
					places |= set(c.B)
					long++
				}
			}
			if got := change.Map(l); got != want {
				t.Fatalf("Map(%v) = %v, want %v", l, got, want)
			}
			if !relabel.Fine(want) {
				t.Fatalf("the map %v of %v is not valid", want, l)
			}
		}
	}
	if long < 1000 || chains < 50 {
		t.Fatalf("Revoke changes: %d, of tags that had taken places: %d", long, chains)
	}
}

// The policy is mapped as the map says: the labels of the roles that were live before and stay, and all of it if there are no other changes.
func TestMapIsWhatAllDoes(t *testing.T) {
	next := mixed()
	pure := 0
	for _, p := range samples() {
		for range 200 {
			var l []api.Change
			q := p
			for range 1 + next(6) {
				c := revoke(next(16), next(16))
				if after, e := oneOf(q, c); e == api.OK {
					q, l = after, append(l, c)
				}
			}
			if len(l) == 0 {
				continue
			}
			pure++
			checkAll(t, p, l, policy.Mapped(p, change.Map(l)), len(l), api.OK)
			l = mixedUpdate(p, next)
			after, _, _ := change.All(p, l)
			m := change.Map(l)
			for r := range 16 {
				if has(p.Live&after.Live, r) && !touched(l, r) && after.Labels[r] != relabel.Label(m, p.Labels[r]) {
					t.Fatalf("role %d of %v behind %v: %v", r, p, l, after)
				}
			}
			if after.Active != p.Active&^relabel.Moved(m) {
				t.Fatalf("tags in use of %v behind %v: %v", p, l, after)
			}
		}
	}
	if pure < 1000 {
		t.Fatalf("updates of Revoke changes: %d", pure)
	}
}

// touched tells whether a role came or went.
func touched(l []api.Change, role int) bool {
	return slices.ContainsFunc(l, func(c api.Change) bool {
		return (c.Kind == api.AddRole || c.Kind == api.DropRole) && c.A == role
	})
}

// P13.3: Bytes, Read.

// checkRead reads bytes and holds the changes, the error and what is left against the wanted ones.
func checkRead(t *testing.T, b []byte, l []api.Change, e api.Errno, left int) {
	t.Helper()
	r := wire.NewReader(b)
	got := change.Read(r)
	if !slices.Equal(got, l) || r.Err() != e || r.Left() != left {
		t.Fatalf("Read(%v) = %v, error %v, %d left, want %v, error %v, %d left", b, got, r.Err(), r.Left(), l, e, left)
	}
}

// bytesOf is Bytes by the words of the chapter.
func bytesOf(l []api.Change) []byte {
	b := []byte{byte(len(l))}
	for _, c := range l {
		b = append(b, byte(c.Kind), byte(c.A), byte(c.B))
		b = append(b, byte(c.Label.S>>8), byte(c.Label.S), byte(c.Label.I>>8), byte(c.Label.I))
	}
	return b
}

// readOf is Read by the words of the chapter: the changes, the error, and how many bytes are left.
func readOf(b []byte) ([]api.Change, api.Errno, int) {
	if len(b) == 0 {
		return nil, api.ErrEnd, 0
	}
	n := int(b[0])
	if n == 0 || n > 6 {
		return nil, api.ErrMany, 0
	}
	b = b[1:]
	var l []api.Change
	for range n {
		if len(b) < 7 {
			return nil, api.ErrEnd, 0
		}
		c := api.Change{Kind: int(b[0]), A: int(b[1]), B: int(b[2])}
		c.Label = api.Label{S: uint16(b[3])<<8 + uint16(b[4]), I: uint16(b[5])<<8 + uint16(b[6])}
		if !fine(c) {
			return nil, api.ErrForm, 0
		}
		l, b = append(l, c), b[7:]
	}
	return l, api.OK, len(b)
}

// updates are of one to six valid changes, among them all kinds, with the least and greatest numbers.
func updates() [][]api.Change {
	l := [][]api.Change{
		{add(0, api.Label{})},
		{add(15, api.Label{S: all, I: all})},
		{add(7, api.Label{S: 258, I: 772})},
		{drop(0), drop(15)},
		{link(0, 0), link(15, 15), link(1, 2)},
		{unlink(0, 0), unlink(15, 15), unlink(1, 2), unlink(2, 1)},
		{own(0, 0), own(15, 15), own(15, 16), own(0, 16), own(3, 4)},
		{revoke(0, 0), revoke(15, 15), revoke(2, 5), revoke(5, 2), revoke(0, 15), revoke(15, 0)},
		six(),
	}
	next := mixed()
	for range 24 {
		l = append(l, mixedUpdate(small(), next))
	}
	return l
}

func TestBytesByteByByte(t *testing.T) {
	cases := []struct {
		name string
		l    []api.Change
		want string
	}{
		{"AddRole", []api.Change{add(15, api.Label{S: 0x0102, I: 0xfffe})}, "\x01\x01\x0f\x00\x01\x02\xff\xfe"},
		{"AddRole, the empty label", []api.Change{add(0, api.Label{})}, "\x01\x01\x00\x00\x00\x00\x00\x00"},
		{"DropRole", []api.Change{drop(9)}, "\x01\x02\x09\x00\x00\x00\x00\x00"},
		{"Link", []api.Change{link(1, 15)}, "\x01\x03\x01\x0f\x00\x00\x00\x00"},
		{"Unlink", []api.Change{unlink(14, 2)}, "\x01\x04\x0e\x02\x00\x00\x00\x00"},
		{"Own", []api.Change{own(3, 4)}, "\x01\x05\x03\x04\x00\x00\x00\x00"},
		{"Own, none", []api.Change{own(3, 16)}, "\x01\x05\x03\x10\x00\x00\x00\x00"},
		{"Revoke", []api.Change{revoke(2, 5)}, "\x01\x06\x02\x05\x00\x00\x00\x00"},
		{"two", []api.Change{add(1, api.Label{}), link(1, 0)}, "\x02" + "\x01\x01\x00\x00\x00\x00\x00" + "\x03\x01\x00\x00\x00\x00\x00"},
		{"six", six(), "\x06" +
			"\x01\x00\x00\x00\x04\x00\x08" +
			"\x03\x00\x09\x00\x00\x00\x00" +
			"\x06\x02\x04\x00\x00\x00\x00" +
			"\x05\x04\x00\x00\x00\x00\x00" +
			"\x04\x01\x02\x00\x00\x00\x00" +
			"\x02\x03\x00\x00\x00\x00\x00"},
	}
	for _, k := range cases {
		if got := change.Bytes(k.l); string(got) != k.want {
			t.Errorf("%s: %v, want %v", k.name, got, []byte(k.want))
		}
		checkRead(t, []byte(k.want), k.l, api.OK, 0)
	}
}

func TestBytesAndBack(t *testing.T) {
	for _, l := range updates() {
		b := change.Bytes(l)
		if want := bytesOf(l); !bytes.Equal(b, want) || len(b) != 1+7*len(l) {
			t.Fatalf("Bytes(%v) = %v, want %v", l, b, want)
		}
		checkRead(t, b, l, api.OK, 0)
	}
	// Every valid change of small numbers.
	for _, kind := range kinds {
		for a := range 16 {
			for b := range 17 {
				for _, l := range []api.Label{{}, {S: 1}, {I: 32768}, bottom, top} {
					c := api.Change{Kind: kind, A: a, B: b, Label: l}
					if fine(c) {
						checkRead(t, change.Bytes([]api.Change{c, c}), []api.Change{c, c}, api.OK, 0)
					}
				}
			}
		}
	}
}

func TestReadOfEveryShorterBeginning(t *testing.T) {
	checkRead(t, nil, nil, api.ErrEnd, 0)
	for _, l := range updates() {
		b := change.Bytes(l)
		for n := range b {
			checkRead(t, b[:n], nil, api.ErrEnd, 0)
		}
	}
}

func TestReadLeavesBytesBehind(t *testing.T) {
	for _, l := range updates() {
		b := change.Bytes(l)
		for n := 1; n < 20; n++ {
			checkRead(t, append(bytes.Clone(b), make([]byte, n)...), l, api.OK, n)
		}
		r := wire.NewReader(append(append(b, change.Bytes(six())...), 7))
		if one, two := change.Read(r), change.Read(r); !slices.Equal(one, l) || !slices.Equal(two, six()) {
			t.Fatalf("two updates behind each other: %v and %v", one, two)
		}
		if n := r.Num(1, 255); n != 7 || r.Err() != api.OK || r.Left() != 0 {
			t.Fatalf("behind two updates: %d, error %v", n, r.Err())
		}
	}
}

// The number of changes counts ahead of the changes: whether they are there, and whether they are valid.
func TestReadOfTheNumberOfChanges(t *testing.T) {
	one := bytesOf([]api.Change{own(0, 16)})[1:]
	for n := range 256 {
		bad := []byte{byte(n)}
		full := append([]byte{byte(n)}, slices.Repeat(one, n)...)
		if 1 <= n && n <= 6 {
			checkRead(t, bad, nil, api.ErrEnd, 0)
			checkRead(t, full, slices.Repeat([]api.Change{own(0, 16)}, n), api.OK, 0)
			continue
		}
		checkRead(t, bad, nil, api.ErrMany, 0)
		checkRead(t, full, nil, api.ErrMany, 0)
		checkRead(t, append(bad, make([]byte, 7*256)...), nil, api.ErrMany, 0)
	}
}

// notValid are changes that fit into their bytes, and are not valid.
func notValid() []api.Change {
	l := []api.Change{{}, {Kind: 7}, {Kind: 8, A: 1}, {Kind: 255, A: 255, B: 255, Label: api.Label{S: all, I: all}}, own(0, 17), own(0, 255)}
	for _, kind := range kinds {
		l = append(l, api.Change{Kind: kind, A: 16}, api.Change{Kind: kind, A: 255}, api.Change{Kind: kind, B: 17}, api.Change{Kind: kind, B: 255})
		if kind != api.Own {
			l = append(l, api.Change{Kind: kind, B: 16})
		}
		if kind != api.AddRole {
			l = append(l, api.Change{Kind: kind, Label: api.Label{S: 1}}, api.Change{Kind: kind, Label: api.Label{I: 256}})
		}
	}
	return append(l, api.Change{Kind: api.AddRole, B: 1}, api.Change{Kind: api.DropRole, B: 1})
}

// A change that is not valid is the error, ahead of all that is missing or not valid behind it.
func TestReadOfAChangeThatIsNotValid(t *testing.T) {
	for _, c := range notValid() {
		if change.Fine(c) {
			t.Fatalf("%v is valid", c)
		}
		for n := 1; n <= 6; n++ {
			for at := range n {
				l := six()[:n]
				l[at] = c
				b := bytesOf(l)
				end := 1 + 7*(at+1)
				checkRead(t, b, nil, api.ErrForm, 0)
				checkRead(t, append(bytes.Clone(b), 1, 2, 3), nil, api.ErrForm, 0)
				for cut := range b {
					e := api.ErrEnd
					if cut >= end {
						e = api.ErrForm
					}
					checkRead(t, b[:cut], nil, e, 0)
				}
			}
		}
	}
}

// Every byte of updates, with every value: some of them are updates too.
func TestReadByteByByte(t *testing.T) {
	count := map[api.Errno]int{}
	for _, l := range updates() {
		b := change.Bytes(l)
		for i, was := range b {
			for n := range 256 {
				b[i] = byte(n)
				want, e, left := readOf(b)
				checkRead(t, b, want, e, left)
				count[e]++
			}
			b[i] = was
		}
	}
	for _, e := range []api.Errno{api.OK, api.ErrForm, api.ErrMany, api.ErrEnd} {
		if count[e] < 50 {
			t.Errorf("error %d: %d times", e, count[e])
		}
	}
}

func TestReadByAReaderThatFailed(t *testing.T) {
	for _, e := range []api.Errno{api.ErrArg, api.ErrEnd, api.ErrMany, api.ErrForm, api.ErrRange, api.ErrDown} {
		for _, l := range updates() {
			r := wire.NewReader(change.Bytes(l))
			r.Fail(e)
			if got := change.Read(r); len(got) != 0 || r.Err() != e || r.Left() != 0 {
				t.Fatalf("after the error %d: %v, error %v", e, got, r.Err())
			}
		}
	}
	// Its own errors stay as well.
	own := []struct {
		b string
		e api.Errno
	}{{"", api.ErrEnd}, {"\x00", api.ErrMany}, {"\x07", api.ErrMany}, {"\x01\x07\x00\x00\x00\x00\x00\x00", api.ErrForm}}
	for _, k := range own {
		r := wire.NewReader([]byte(k.b))
		for range 3 {
			if got := change.Read(r); len(got) != 0 || r.Err() != k.e || r.Left() != 0 {
				t.Fatalf("%q: %v, error %v", k.b, got, r.Err())
			}
		}
	}
	var none *wire.Reader
	if got := change.Read(none); len(got) != 0 || none.Err() != api.ErrNil {
		t.Fatalf("a nil Reader: %v", got)
	}
}

// P13.4: an update of a valid policy gives a valid policy.

func TestUpdatesGiveValidPolicies(t *testing.T) {
	next := mixed()
	for _, p := range samples() {
		if !policy.Fine(p) {
			t.Fatalf("the sample %v is not valid", p)
		}
		// One update behind the other, of a policy that becomes more and more mixed.
		for range 500 {
			l := mixedUpdate(p, next)
			after, n, e := change.All(p, l)
			if n != len(l) || e != api.OK {
				t.Fatalf("All(%v, %v): %d, %v", p, l, n, e)
			}
			if !policy.Fine(after) {
				t.Fatalf("All(%v, %v) = %v, which is not valid", p, l, after)
			}
			if next(4) == 0 {
				p = after
			}
		}
	}
}

// eachChange calls f with all valid changes of a policy that have no error, and what they give.
func eachChange(p api.Policy, f func(c api.Change, after api.Policy)) {
	for _, kind := range kinds {
		for a := range 16 {
			for b := range 17 {
				c := api.Change{Kind: kind, A: a, B: b}
				if kind == api.AddRole {
					c.Label = api.Label{S: p.Active & set(b%16), I: p.Active &^ set(a)}
					c.B = 0
				}
				if after, e := change.One(p, c); e == api.OK {
					f(c, after)
				}
			}
		}
	}
}

func TestOneGivesValidPolicies(t *testing.T) {
	count := map[int]int{}
	for _, p := range samples() {
		eachChange(p, func(c api.Change, after api.Policy) {
			count[c.Kind]++
			if !policy.Fine(after) {
				t.Fatalf("One(%v, %v) = %v, which is not valid", p, c, after)
			}
		})
	}
	for _, kind := range kinds {
		if count[kind] < 100 {
			t.Errorf("kind %d: %d times", kind, count[kind])
		}
	}
}

// P13.5: adding and dropping a role, or linking and unlinking roles, restores the policy.

func TestThereAndBackRestoresThePolicy(t *testing.T) {
	count := map[int]int{}
	for _, p := range samples() {
		eachChange(p, func(c api.Change, after api.Policy) {
			back := c
			switch c.Kind {
			case api.AddRole:
				back = drop(c.A)
			case api.Link:
				back.Kind = api.Unlink
			case api.Unlink:
				back.Kind = api.Link
			default:
				return
			}
			count[c.Kind]++
			if after == p {
				t.Fatalf("%v did nothing to %v", c, p)
			}
			checkOne(t, "and back", after, back, p, api.OK)
			checkAll(t, p, []api.Change{c, back}, p, 2, api.OK)
			checkAll(t, p, []api.Change{c, back, c, back, c, back}, p, 6, api.OK)
		})
	}
	for _, kind := range []int{api.AddRole, api.Link, api.Unlink} {
		if count[kind] < 100 {
			t.Errorf("kind %d: %d times", kind, count[kind])
		}
	}
}

// What comes between, and is taken back, may be left out too: the role's links and tags go with it.
func TestARoleGoesWithAllThatItGot(t *testing.T) {
	for _, p := range samples() {
		for r := range 16 {
			if has(p.Live, r) {
				continue
			}
			l := []api.Change{add(r, api.Label{S: p.Active})}
			for other := range 16 {
				if has(p.Live, other) && len(l) < 4 {
					l = append(l, link(r, other), link(other, r))
				}
			}
			for tag := range 16 {
				if has(p.Active, tag) && p.Owner[tag] == 16 && len(l) < 5 {
					l = append(l, own(tag, r))
				}
			}
			l = append(l, drop(r))
			checkAll(t, p, l, p, len(l), api.OK)
		}
	}
}

// P13.6: changes of roles that are not visible under a label change nothing that is visible under it.

// hides tells whether a change is one of roles that are not visible: the role that comes or goes, at least one of two that are linked or unlinked, and the owners, old and new, of a tag.
func hides(p, after api.Policy, c api.Change, l api.Label) bool {
	seen := func(role int) bool {
		return has(p.Live, role) && flows(p.Labels[role], l) || has(after.Live, role) && flows(after.Labels[role], l)
	}
	switch c.Kind {
	case api.AddRole, api.DropRole:
		return !seen(c.A)
	case api.Link, api.Unlink:
		return !seen(c.A) || !seen(c.B)
	case api.Own:
		return !seen(int(p.Owner[c.A])) && !seen(c.B)
	}
	return false
}

// view is what is visible of a policy under a label.
type view struct {
	seen   uint16
	labels [16]api.Label
	acts   [16]uint16
	caps   [16]uint16
	owned  [16]uint16
	active uint16
}

// viewOf is what is visible of a policy under a label, by the functions of layer 12.
func viewOf(p api.Policy, l api.Label) view {
	v := view{seen: policy.Seen(p, l), active: p.Active}
	for a := range 16 {
		v.caps[a] = policy.Caps(p, a, l)
		if !has(v.seen, a) {
			continue
		}
		v.labels[a] = p.Labels[a]
		v.owned[a] = policy.Owned(p, set(a))
		for b := range 16 {
			if policy.ActsFor(p, a, b, l) {
				v.acts[a] |= set(b)
			}
		}
	}
	return v
}

func TestChangesOfRolesThatAreNotVisible(t *testing.T) {
	count := map[int]int{}
	for _, p := range append(samples()[:4], samples()[12:20]...) {
		for _, l := range labels(p) {
			before := viewOf(p, l)
			eachChange(p, func(c api.Change, after api.Policy) {
				if !hides(p, after, c, l) {
					return
				}
				count[c.Kind]++
				if v := viewOf(after, l); v != before {
					t.Fatalf("%v of %v under %v: %v became %v", c, p, l, before, v)
				}
			})
		}
	}
	for _, kind := range []int{api.AddRole, api.DropRole, api.Link, api.Unlink, api.Own} {
		if count[kind] < 500 {
			t.Errorf("kind %d: %d times", kind, count[kind])
		}
	}
}

// Whole updates of such changes, of small, under a label under which only the roles 1 and 3 are visible.
func TestUpdatesOfRolesThatAreNotVisible(t *testing.T) {
	l := api.Label{}
	secret := api.Label{S: set(3)}
	cases := [][]api.Change{
		{drop(2), drop(9)},
		{add(0, secret), link(0, 1), link(1, 0), own(4, 0)},
		{own(1, 9), link(9, 3), link(3, 9), unlink(1, 2), unlink(2, 3), drop(9)},
		{add(15, secret), add(14, secret), link(15, 14), link(14, 3), own(4, 14), own(5, 16)},
	}
	before := viewOf(small(), l)
	if before.seen != set(1, 3) {
		t.Fatalf("visible: %d", before.seen)
	}
	for _, c := range cases {
		after, n, e := change.All(small(), c)
		if n != len(c) || e != api.OK {
			t.Errorf("%v: %d, %v", c, n, e)
		}
		if after == small() {
			t.Errorf("%v did nothing", c)
		}
		if v := viewOf(after, l); v != before {
			t.Errorf("%v: %v became %v", c, before, v)
		}
	}
}

// R4: the arguments are left as they were, and results are new memory.

func TestArgumentsAreLeft(t *testing.T) {
	next := mixed()
	for _, p := range samples() {
		for range 20 {
			// Behind the list's end stands a change that is not valid, within its capacity.
			l := append(mixedUpdate(p, next), api.Change{Kind: 99, A: 99, B: 99})
			whole := l
			l = l[:len(l)-1]
			was, wasPolicy := slices.Clone(whole), p
			after, n, e := change.All(p, l)
			m := change.Map(l)
			b := change.Bytes(l)
			for _, c := range l {
				change.Fine(c)
				change.One(p, c)
			}
			if p != wasPolicy || !slices.Equal(whole, was) {
				t.Fatalf("%v became %v, or %v became %v", wasPolicy, p, was, whole)
			}
			if n != len(l) || e != api.OK || len(b) != 1+7*len(l) {
				t.Fatalf("All(%v, %v): %d, %v", p, l, n, e)
			}
			wasBytes := bytes.Clone(b)
			clear(b)
			if !bytes.Equal(change.Bytes(l), wasBytes) || change.Map(l) != m {
				t.Fatalf("the results of %v were changed", l)
			}
			clear(l)
			l = was[:len(was)-1]
			if again, _, _ := change.All(p, l); again != after {
				t.Fatalf("All(%v, %v) = %v, and then %v", p, l, after, again)
			}
		}
	}
}

func TestReadGivesNewMemory(t *testing.T) {
	for _, l := range updates() {
		b := change.Bytes(l)
		wasBytes := bytes.Clone(b)
		twice := append(bytes.Clone(b), b...)
		r := wire.NewReader(twice)
		one := change.Read(r)
		clear(one)
		if two := change.Read(r); !slices.Equal(two, l) {
			t.Fatalf("%v was read behind it, want %v", two, l)
		}
		got := change.Read(wire.NewReader(b))
		if !bytes.Equal(b, wasBytes) {
			t.Fatalf("%v became %v", wasBytes, b)
		}
		clear(b)
		if !slices.Equal(got, l) {
			t.Fatalf("%v was read, and became %v", l, got)
		}
	}
}
