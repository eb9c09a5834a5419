package diff_test

import (
	"fmt"
	"slices"
	"strings"
	"testing"

	"forepeak/api"
	"forepeak/change"
	"forepeak/diff"
	"forepeak/policy"
)

// The signatures are those of the chapter.
var (
	_ func(p, q api.Policy) []string                             = diff.Lines
	_ func(p api.Policy, lines []string) (api.Policy, api.Errno) = diff.Patch
)

const all = 65535

// kinds are the kinds of lines, in order.
var kinds = []string{"dead", "used", "gone", "role", "unlink", "link", "own", "free"}

// set is the set of some roles or tags, without any function of the program.
func set(members ...int) uint16 {
	var s uint16
	for _, m := range members {
		s |= 1 << m
	}
	return s
}

// has tells whether a role or tag is in a set, without any function of the program.
func has(s uint16, m int) bool { return s>>m&1 == 1 }

// mixed returns a source of numbers that look like any, the same ones in each run.
func mixed() func(below int) int {
	x := uint64(1)
	return func(below int) int {
		x = x*6364136223846793005 + 1442695040888963407
		return int(x>>33) % below
	}
}

// bare is the policy with some live roles and some tags in use, and nothing else.
func bare(live, active uint16) api.Policy {
	p := api.Policy{Live: live, Active: active}
	for t := range p.Owner {
		p.Owner[t] = 16
	}
	return p
}

// one is a policy with properties of all kinds, whose numbers have one digit and two.
func one() api.Policy {
	p := bare(set(1, 2, 3, 9, 10), set(0, 1, 2, 3, 9, 10))
	p.Labels[1] = api.Label{I: set(0, 1)}
	p.Labels[2] = api.Label{S: set(0), I: set(1, 2)}
	p.Labels[9] = api.Label{S: set(9)}
	p.Labels[10] = api.Label{I: set(10)}
	p.Acts[1] = set(2, 10)
	p.Acts[2] = set(3, 9)
	p.Acts[3] = set(9)
	p.Acts[9] = set(1)
	p.Acts[10] = set(2, 9)
	p.Owner[0], p.Owner[1], p.Owner[2], p.Owner[9], p.Owner[10] = 1, 2, 3, 9, 10
	return p
}

// two is a policy that differs from one in lines of all kinds.
func two() api.Policy {
	p := bare(set(1, 3, 4, 9, 11), set(0, 1, 3, 4, 9, 12))
	p.Labels[1] = api.Label{I: set(0, 1)}
	p.Labels[3] = api.Label{S: set(4)}
	p.Labels[9] = api.Label{S: set(9), I: set(12)}
	p.Labels[11] = api.Label{S: set(0, 12), I: set(9)}
	p.Acts[3] = set(1, 11)
	p.Acts[4] = set(9)
	p.Acts[9] = set(1, 4, 11)
	p.Acts[11] = set(4)
	p.Owner[0], p.Owner[3], p.Owner[4], p.Owner[9], p.Owner[12] = 11, 4, 3, 9, 9
	return p
}

// forth are the differences between one and two, written by hand.
func forth() []string {
	return []string{
		"dead 2", "dead 10",
		"used 4", "used 12",
		"gone 2", "gone 10",
		"role 3 4/-", "role 4 -/-", "role 9 9/12", "role 11 0,12/9",
		"unlink 1 2", "unlink 1 10", "unlink 2 3", "unlink 2 9", "unlink 3 9", "unlink 10 2", "unlink 10 9",
		"link 3 1", "link 3 11", "link 4 9", "link 9 4", "link 9 11", "link 11 4",
		"own 0 11", "own 3 4", "own 4 3", "own 12 9",
		"free 1", "free 2", "free 10",
	}
}

// back are the differences between two and one, written by hand.
func back() []string {
	return []string{
		"dead 4", "dead 12",
		"used 2", "used 10",
		"gone 4", "gone 11",
		"role 2 0/1,2", "role 3 -/-", "role 9 9/-", "role 10 -/10",
		"unlink 3 1", "unlink 3 11", "unlink 4 9", "unlink 9 4", "unlink 9 11", "unlink 11 4",
		"link 1 2", "link 1 10", "link 2 3", "link 2 9", "link 3 9", "link 10 2", "link 10 9",
		"own 0 1", "own 1 2", "own 2 3", "own 10 10",
		"free 3", "free 4", "free 12",
	}
}

// dense is the policy in which all roles are live and act for all others, and all tags are in use and have an owner.
func dense() api.Policy {
	p := bare(all, all)
	for r := range 16 {
		p.Labels[r] = api.Label{S: 1<<r - 1, I: all}
		p.Acts[r] = all - set(r)
		p.Owner[r] = uint8(15 - r)
	}
	return p
}

// mixedPolicy is a valid policy.
func mixedPolicy(next func(below int) int) api.Policy {
	p := bare(uint16(next(65536)), uint16(next(65536)))
	for r := range 16 {
		if has(p.Live, r) {
			p.Labels[r] = api.Label{S: p.Active & uint16(next(65536)), I: p.Active & uint16(next(65536))}
			p.Acts[r] = p.Live & uint16(next(65536)) &^ set(r)
		}
		if owner := next(16); has(p.Active, r) && has(p.Live, owner) {
			p.Owner[r] = uint8(owner)
		}
	}
	return p
}

// nearby is a policy with up to six valid changes more.
func nearby(p api.Policy, next func(below int) int) api.Policy {
	for range next(7) {
		c := api.Change{Kind: 1 + next(6), A: next(16), B: next(17)}
		switch c.Kind {
		case api.AddRole:
			c.B, c.Label = 0, api.Label{S: p.Active & uint16(next(65536)), I: p.Active & uint16(next(65536))}
		case api.DropRole:
			c.B = 0
		}
		if after, e := change.One(p, c); e == api.OK {
			p = after
		}
	}
	return p
}

// samples are valid policies: with no, some and all roles live, with no, some and all tags in use, and mixed ones.
func samples() []api.Policy {
	l := []api.Policy{policy.First(), one(), two(), dense(), bare(0, 0), bare(0, all), bare(all, 0), bare(set(0, 10), set(1, 11))}
	next := mixed()
	for range 14 {
		l = append(l, mixedPolicy(next))
	}
	return l
}

// pairs calls f with all pairs of samples, and with pairs of policies that are near each other.
func pairs(f func(p, q api.Policy)) {
	l := samples()
	next := mixed()
	for _, p := range l {
		for _, q := range l {
			f(p, q)
		}
		for range 20 {
			q := nearby(p, next)
			f(p, q)
			f(q, p)
		}
	}
}

// setText is the text of a set, without any function of the program.
func setText(s uint16) string {
	var words []string
	for n := range 16 {
		if has(s, n) {
			words = append(words, fmt.Sprint(n))
		}
	}
	if words == nil {
		return "-"
	}
	return strings.Join(words, ",")
}

// stated are all the lines that state a property of a policy, in their order: each property has one.
func stated(p api.Policy) []string {
	by := map[string][]string{}
	tell := func(kind, format string, numbers ...any) {
		by[kind] = append(by[kind], kind+fmt.Sprintf(format, numbers...))
	}
	either := func(holds bool, yes, no, format string, numbers ...any) {
		if holds {
			tell(yes, format, numbers...)
		} else {
			tell(no, format, numbers...)
		}
	}
	for n := range 16 {
		either(has(p.Active, n), "used", "dead", " %d", n)
		if has(p.Live, n) {
			tell("role", " %d %s/%s", n, setText(p.Labels[n].S), setText(p.Labels[n].I))
		} else {
			tell("gone", " %d", n)
		}
		for m := range 16 {
			either(has(p.Acts[n], m), "link", "unlink", " %d %d", n, m)
		}
		if p.Owner[n] < 16 {
			tell("own", " %d %d", n, p.Owner[n])
		} else {
			tell("free", " %d", n)
		}
	}
	var l []string
	for _, kind := range kinds {
		l = append(l, by[kind]...)
	}
	return l
}

// linesOf is Lines by the words of the chapter: what is stated of q, but not of p.
func linesOf(p, q api.Policy) []string {
	holds := counted(stated(p))
	return slices.DeleteFunc(stated(q), func(s string) bool { return holds[s] > 0 })
}

// counted tells how often each line is in a list.
func counted(l []string) map[string]int {
	n := map[string]int{}
	for _, s := range l {
		n[s]++
	}
	return n
}

// effects are all lines but those of roles, and what each does to a policy.
func effects() map[string]func(p *api.Policy) {
	do := map[string]func(p *api.Policy){}
	for n := range 16 {
		do[fmt.Sprintf("dead %d", n)] = func(p *api.Policy) { p.Active &^= 1 << n }
		do[fmt.Sprintf("used %d", n)] = func(p *api.Policy) { p.Active |= 1 << n }
		do[fmt.Sprintf("gone %d", n)] = func(p *api.Policy) { p.Live &^= 1 << n; p.Labels[n] = api.Label{} }
		do[fmt.Sprintf("free %d", n)] = func(p *api.Policy) { p.Owner[n] = 16 }
		for m := range 16 {
			do[fmt.Sprintf("unlink %d %d", n, m)] = func(p *api.Policy) { p.Acts[n] &^= 1 << m }
			do[fmt.Sprintf("link %d %d", n, m)] = func(p *api.Policy) { p.Acts[n] |= 1 << m }
			do[fmt.Sprintf("own %d %d", n, m)] = func(p *api.Policy) { p.Owner[n] = uint8(m) }
		}
	}
	return do
}

// sets are all sets by their texts.
func sets() map[string]uint16 {
	by := map[string]uint16{}
	for s := range all + 1 {
		by[setText(uint16(s))] = uint16(s)
	}
	return by
}

// patcher returns Patch by the words of the chapter.
func patcher() func(p api.Policy, lines []string) (api.Policy, api.Errno) {
	do, by := effects(), sets()
	role := func(p *api.Policy, line string) bool {
		for n := range 16 {
			text, ok := strings.CutPrefix(line, fmt.Sprintf("role %d ", n))
			if !ok {
				continue
			}
			secrecy, integrity, _ := strings.Cut(text, "/")
			s, fineS := by[secrecy]
			i, fineI := by[integrity]
			p.Live |= 1 << n
			p.Labels[n] = api.Label{S: s, I: i}
			return fineS && fineI
		}
		return false
	}
	return func(p api.Policy, lines []string) (api.Policy, api.Errno) {
		for _, line := range lines {
			if f := do[line]; f != nil {
				f(&p)
			} else if !role(&p, line) {
				return api.Policy{}, api.ErrForm
			}
		}
		if !policy.Fine(p) {
			return api.Policy{}, api.ErrForm
		}
		return p, api.OK
	}
}

// everyLine are all lines but those of roles, in an order that is the same in each run, and of each role some lines.
func everyLine() []string {
	var l []string
	for s := range effects() {
		l = append(l, s)
	}
	for n := range 16 {
		for _, text := range []string{"-/-", "-/0,1,2,3,4,5,6,7,8,9,10,11,12,13,14,15", "1/-", "-/9", "0,12/3,4,9", "15/15"} {
			l = append(l, fmt.Sprintf("role %d %s", n, text))
		}
	}
	slices.Sort(l)
	return l
}

// checkLines holds the lines between two policies against the wanted ones.
func checkLines(t *testing.T, name string, p, q api.Policy, want ...string) {
	t.Helper()
	if got := diff.Lines(p, q); !slices.Equal(got, want) {
		t.Fatalf("%s: Lines(%v, %v) = %q, want %q", name, p, q, got, want)
	}
}

// checkPatch holds what a policy becomes by lines against the wanted one.
func checkPatch(t *testing.T, p api.Policy, lines []string, want api.Policy) {
	t.Helper()
	if got, e := diff.Patch(p, lines); got != want || e != api.OK {
		t.Fatalf("Patch(%v, %q) = %v, %v, want %v", p, lines, got, e, want)
	}
}

// checkForm wants the error of lines, and no policy with it.
func checkForm(t *testing.T, p api.Policy, lines ...string) {
	t.Helper()
	if got, e := diff.Patch(p, lines); got != (api.Policy{}) || e != api.ErrForm {
		t.Fatalf("Patch(%v, %q) = %v, %v, want the zero policy and ErrForm", p, lines, got, e)
	}
}

// kindOf is the first word of a line.
func kindOf(line string) string {
	kind, _, _ := strings.Cut(line, " ")
	return kind
}

// checkKinds wants that each kind of line was counted often enough.
func checkKinds(t *testing.T, count map[string]int, least int) {
	t.Helper()
	for _, kind := range kinds {
		if count[kind] < least {
			t.Errorf("%s: %d times", kind, count[kind])
		}
	}
}

func TestSamplesAreValid(t *testing.T) {
	next := mixed()
	for _, p := range samples() {
		for _, p := range []api.Policy{p, nearby(p, next)} {
			if !policy.Fine(p) {
				t.Errorf("%v is not valid", p)
			}
		}
	}
}

// P15.1: Lines.

func TestLinesOfTheExample(t *testing.T) {
	q, e := change.One(policy.First(), api.Change{Kind: api.AddRole, A: 1})
	if e != api.OK {
		t.Fatal(e)
	}
	checkLines(t, "AddRole 1", policy.First(), q, "role 1 -/-")
	checkLines(t, "and back", q, policy.First(), "gone 1")
}

func TestLinesBetweenAPolicyAndItself(t *testing.T) {
	for _, p := range samples() {
		checkLines(t, "itself", p, p)
	}
}

// Policies that differ in one property alone, written by hand.
func TestLinesOfOneProperty(t *testing.T) {
	cases := []struct {
		name        string
		change      func(p *api.Policy)
		forth, back string
	}{
		{"a tag is used", func(p *api.Policy) { p.Active |= set(7) }, "used 7", "dead 7"},
		{"a tag of two digits is used", func(p *api.Policy) { p.Active |= set(15) }, "used 15", "dead 15"},
		{"a tag is dead", func(p *api.Policy) { p.Active &^= set(3) }, "dead 3", "used 3"},
		{"a role came", func(p *api.Policy) { p.Live |= set(0) }, "role 0 -/-", "gone 0"},
		{"a role came with a label", func(p *api.Policy) {
			p.Live |= set(12)
			p.Labels[12] = api.Label{S: set(3, 10), I: set(0, 1, 2, 3, 9, 10)}
		}, "role 12 3,10/0,1,2,3,9,10", "gone 12"},
		{"another secrecy", func(p *api.Policy) { p.Labels[2].S = set(10) }, "role 2 10/1,2", "role 2 0/1,2"},
		{"another integrity", func(p *api.Policy) { p.Labels[10].I = 0 }, "role 10 -/-", "role 10 -/10"},
		{"a link more", func(p *api.Policy) { p.Acts[1] |= set(3) }, "link 1 3", "unlink 1 3"},
		{"a link more, of two digits", func(p *api.Policy) { p.Acts[9] |= set(10) }, "link 9 10", "unlink 9 10"},
		{"a link less", func(p *api.Policy) { p.Acts[10] &^= set(2) }, "unlink 10 2", "link 10 2"},
		{"another owner", func(p *api.Policy) { p.Owner[9] = 10 }, "own 9 10", "own 9 9"},
		{"an owner where there was none", func(p *api.Policy) { p.Owner[3] = 1 }, "own 3 1", "free 3"},
		{"no owner where there was one", func(p *api.Policy) { p.Owner[10] = 16 }, "free 10", "own 10 10"},
	}
	for _, c := range cases {
		q := one()
		c.change(&q)
		if !policy.Fine(q) {
			t.Fatalf("%s: %v is not valid", c.name, q)
		}
		checkLines(t, c.name, one(), q, c.forth)
		checkLines(t, c.name+", and back", q, one(), c.back)
	}
}

// Policies that differ in one property alone, with all numbers.
func TestLinesOfEveryProperty(t *testing.T) {
	for n := range 16 {
		tags, roles := bare(0, all), bare(all, all)
		less := bare(0, all-set(n))
		checkLines(t, "tag", tags, less, fmt.Sprintf("dead %d", n))
		checkLines(t, "tag", less, tags, fmt.Sprintf("used %d", n))
		less = bare(all-set(n), all)
		checkLines(t, "role", roles, less, fmt.Sprintf("gone %d", n))
		checkLines(t, "role", less, roles, fmt.Sprintf("role %d -/-", n))
		for m := range 16 {
			q := roles
			q.Labels[n].S = set(m)
			checkLines(t, "secrecy", roles, q, fmt.Sprintf("role %d %d/-", n, m))
			q.Labels[n] = api.Label{I: set(m)}
			checkLines(t, "integrity", roles, q, fmt.Sprintf("role %d -/%d", n, m))
			q = roles
			q.Owner[n] = uint8(m)
			checkLines(t, "owner", roles, q, fmt.Sprintf("own %d %d", n, m))
			checkLines(t, "owner", q, roles, fmt.Sprintf("free %d", n))
			other := roles
			other.Owner[n] = uint8((m + 1) % 16)
			checkLines(t, "owner", other, q, fmt.Sprintf("own %d %d", n, m))
			if n != m {
				q = roles
				q.Acts[n] = set(m)
				checkLines(t, "link", roles, q, fmt.Sprintf("link %d %d", n, m))
				checkLines(t, "link", q, roles, fmt.Sprintf("unlink %d %d", n, m))
			}
		}
	}
}

// The kinds in their order, within a kind by N, and then by M: as numbers, not as texts.
func TestLinesInTheirOrder(t *testing.T) {
	checkLines(t, "forth", one(), two(), forth()...)
	checkLines(t, "back", two(), one(), back()...)
}

func TestLinesOfARoleWithLinksAndTags(t *testing.T) {
	q := one()
	q.Live |= set(11)
	q.Labels[11] = api.Label{S: set(3)}
	q.Acts[11] = set(2, 10)
	q.Acts[3] |= set(11)
	q.Owner[1], q.Owner[3] = 11, 11
	checkLines(t, "a role came", one(), q, "role 11 3/-", "link 3 11", "link 11 2", "link 11 10", "own 1 11", "own 3 11")
	checkLines(t, "a role is gone", q, one(), "gone 11", "unlink 3 11", "unlink 11 2", "unlink 11 10", "own 1 2", "free 3")
}

func TestLinesPropertyByProperty(t *testing.T) {
	count := map[string]int{}
	pairs(func(p, q api.Policy) {
		want := linesOf(p, q)
		for _, s := range want {
			count[kindOf(s)]++
		}
		checkLines(t, "mixed", p, q, want...)
	})
	checkKinds(t, count, 500)
}

// P15.2: Patch.

func TestPatchOfNoLine(t *testing.T) {
	for _, p := range samples() {
		checkPatch(t, p, nil, p)
		checkPatch(t, p, []string{}, p)
	}
}

// Each kind of line, written by hand.
func TestPatchOfOneLine(t *testing.T) {
	cases := []struct {
		line   string
		change func(p *api.Policy)
	}{
		{"dead 3", func(p *api.Policy) { p.Active = set(0, 1, 2, 9, 10) }},
		{"used 4", func(p *api.Policy) { p.Active = set(0, 1, 2, 3, 4, 9, 10) }},
		{"used 15", func(p *api.Policy) { p.Active = set(0, 1, 2, 3, 9, 10, 15) }},
		{"role 0 -/-", func(p *api.Policy) { p.Live = set(0, 1, 2, 3, 9, 10) }},
		{"role 14 1,10/0,3", func(p *api.Policy) {
			p.Live = set(1, 2, 3, 9, 10, 14)
			p.Labels[14] = api.Label{S: set(1, 10), I: set(0, 3)}
		}},
		{"unlink 1 10", func(p *api.Policy) { p.Acts[1] = set(2) }},
		{"unlink 9 1", func(p *api.Policy) { p.Acts[9] = 0 }},
		{"link 10 1", func(p *api.Policy) { p.Acts[10] = set(1, 2, 9) }},
		{"link 9 10", func(p *api.Policy) { p.Acts[9] = set(1, 10) }},
		{"own 3 10", func(p *api.Policy) { p.Owner[3] = 10 }},
		{"own 10 1", func(p *api.Policy) { p.Owner[10] = 1 }},
		{"free 0", func(p *api.Policy) { p.Owner[0] = 16 }},
		{"free 10", func(p *api.Policy) { p.Owner[10] = 16 }},
	}
	for _, c := range cases {
		want := one()
		c.change(&want)
		if want == one() {
			t.Fatalf("%s changes nothing", c.line)
		}
		checkPatch(t, one(), []string{c.line}, want)
	}
	// No link and no tag keeps this role.
	p := bare(set(1, 11), set(3))
	p.Labels[11] = api.Label{S: set(3), I: set(3)}
	checkPatch(t, p, []string{"gone 11"}, bare(set(1), set(3)))
}

// All lines, and the policies of all samples.
func TestPatchOfEveryLine(t *testing.T) {
	patch, l := patcher(), everyLine()
	if len(l) != 4*16+3*256+6*16 {
		t.Fatalf("lines: %d", len(l))
	}
	count := map[string]int{}
	for _, p := range samples() {
		for _, s := range l {
			want, e := patch(p, []string{s})
			if e != api.OK {
				checkForm(t, p, s)
				continue
			}
			checkPatch(t, p, []string{s}, want)
			if want != p {
				count[kindOf(s)]++
			}
		}
	}
	checkKinds(t, count, 15)
}

// Lines of any kinds, behind one another.
func TestPatchOfManyLines(t *testing.T) {
	patch, l := patcher(), everyLine()
	next := mixed()
	for _, p := range samples() {
		fine := 0
		for range 3000 {
			lines := make([]string, next(4))
			for i := range lines {
				lines[i] = l[next(len(l))]
			}
			want, e := patch(p, lines)
			if e != api.OK {
				checkForm(t, p, lines...)
				continue
			}
			checkPatch(t, p, lines, want)
			fine++
		}
		if fine < 500 {
			t.Errorf("%v: %d times valid", p, fine)
		}
	}
}

// Of two lines of one property the latter counts.
func TestPatchOneAfterTheOther(t *testing.T) {
	p := one()
	checkPatch(t, p, []string{"used 4", "dead 4"}, p)
	checkPatch(t, p, []string{"link 1 3", "unlink 1 3"}, p)
	checkPatch(t, p, []string{"role 11 0/-", "gone 11"}, p)
	checkPatch(t, p, []string{"own 3 1", "free 3"}, p)
	want := p
	want.Active |= set(4)
	checkPatch(t, p, []string{"dead 4", "used 4"}, want)
	want = p
	want.Acts[1] |= set(3)
	checkPatch(t, p, []string{"unlink 1 3", "link 1 3"}, want)
	want = p
	want.Live |= set(11)
	want.Labels[11].I = set(3)
	checkPatch(t, p, []string{"gone 11", "role 11 0/-", "role 11 -/3"}, want)
	want = p
	want.Owner[3] = 10
	checkPatch(t, p, []string{"free 3", "own 3 1", "own 3 10"}, want)
}

// The label becomes zero; links and owners stay, until a line changes them.
func TestPatchOfGone(t *testing.T) {
	p := one()
	checkForm(t, p, "gone 2")
	want := p
	want.Labels[2] = api.Label{}
	checkPatch(t, p, []string{"gone 2", "role 2 -/-"}, want)
	// Each of the lines that take away what stayed is needed.
	mend := []string{"unlink 1 2", "unlink 2 3", "unlink 2 9", "unlink 10 2", "free 1"}
	want.Live &^= set(2)
	want.Acts[1], want.Acts[2], want.Acts[10] = set(10), 0, set(9)
	want.Owner[1] = 16
	checkPatch(t, p, append([]string{"gone 2"}, mend...), want)
	checkPatch(t, p, append(slices.Clone(mend), "gone 2"), want)
	for i := range mend {
		checkForm(t, p, append([]string{"gone 2"}, slices.Delete(slices.Clone(mend), i, i+1)...)...)
	}
	// The role comes back with what stayed, and with a label of its own.
	want = p
	want.Labels[2] = api.Label{S: set(9), I: set(10)}
	checkPatch(t, p, []string{"gone 2", "role 2 9/10"}, want)
	// Another role takes its tag.
	q := bare(set(1, 2), set(0))
	q.Owner[0] = 2
	checkForm(t, q, "gone 2")
	want = bare(set(1), set(0))
	want.Owner[0] = 1
	checkPatch(t, q, []string{"gone 2", "own 0 1"}, want)
}

// The label of a live role changes, and nothing else.
func TestPatchOfALiveRole(t *testing.T) {
	for _, p := range samples() {
		for n := range 16 {
			if !has(p.Live, n) {
				continue
			}
			for _, l := range []api.Label{{}, {S: p.Active}, {I: p.Active}, {S: p.Active & 0x5555, I: p.Active & 0x3333}} {
				want := p
				want.Labels[n] = l
				checkPatch(t, p, []string{fmt.Sprintf("role %d %s/%s", n, setText(l.S), setText(l.I))}, want)
			}
		}
	}
}

// What holds already, goes on to hold.
func TestPatchOfWhatHoldsAlready(t *testing.T) {
	for _, p := range samples() {
		l := stated(p)
		if len(l) != 16+16+256+16 {
			t.Fatalf("properties: %d", len(l))
		}
		for _, s := range l {
			checkPatch(t, p, []string{s}, p)
			checkPatch(t, p, []string{s, s}, p)
		}
		checkPatch(t, p, l, p)
		// And whatever held before.
		checkPatch(t, one(), l, p)
		checkPatch(t, dense(), l, p)
	}
}

// noLines are strings that are no lines.
func noLines() []string {
	l := []string{
		"", " ", "  ", "   ", "    ", "\n", "0", "1 2", "-/-", "dead1", "dead\t1", "dead-1", "tag 1", "live 1", "drop 1", "none 1", "x 1", "own 1 none", "own 1 -", "free 1 16",
		"role -/-", "role 1", "role 1 ", "role 1 -", "role 1 /", "role 1 -/", "role 1 /-", "role 1 -/-/-", "role 1 -/- 2", "role 1 2", "role 1 2 -/-", "role 1 - -", "role 1 -/ -", "role 1 - /-",
		"role 1 16/-", "role 1 -/16", "role 1 0,0/-", "role 1 1,0/-", "role 1 -/01", "role 1 0,/-", "role 1 ,0/-", "role 1 0, 1/-", "role 1 +0/-", "role 1 -/-1", "role 1 -/x", "role 1 0/1,", "role 1 -/-\n", "role 1  -/-", "role -/- 1",
		"dead -", "dead 0,1", "gone ,1", "used 1,", "link 0,1 2", "link 1 0,2", "link 1 -", "link - 1", "own - 1", "own 0,1 1", "link 1,2", "link -/- 1", "link 1 -/-", "dead -/-",
		"dead 1\x00", "\x00dead 1", "dead \x001", "dead 1\xff", "d\xe9ad 1", "dead １", "dead\u00a01", "ｄead 1",
		strings.Repeat(" ", 1<<16), strings.Repeat("dead 1 ", 1<<12), "dead " + strings.Repeat("0", 1<<12) + "1", "dead " + strings.Repeat("9", 1<<12),
	}
	for _, n := range []string{"16", "17", "20", "99", "100", "255", "256", "65536", "4294967296", "18446744073709551616", "18446744073709551617", "-1", "-0", "+1", "+0", "01", "00", "015", "x", "a", "1x", "x1", "0x1", "1.0", "1e0", "1_0", "", "'1'", "１"} {
		for _, kind := range []string{"dead", "used", "gone", "free"} {
			l = append(l, kind+" "+n)
		}
		for _, kind := range []string{"unlink", "link", "own"} {
			l = append(l, kind+" "+n+" 2", kind+" 2 "+n)
		}
		l = append(l, "role "+n+" -/-")
	}
	for _, good := range []string{"dead 1", "used 10", "gone 3", "free 15", "role 1 0/1", "unlink 1 2", "link 10 11", "own 4 5"} {
		words := strings.Split(good, " ")
		l = append(l, words[0], words[0]+" ", strings.Join(words[1:], " "))
		// A number missing, and one too many.
		l = append(l, strings.Join(words[:len(words)-1], " "), good+" 1", good+" 1 2", good+" x")
		// Blanks, line's ends, and capitals.
		l = append(l, " "+good, good+" ", "  "+good, good+"  ", strings.ReplaceAll(good, " ", "  "), strings.Replace(good, " ", "  ", 1), strings.ReplaceAll(good, " ", "\t"))
		l = append(l, good+"\n", good+"\r\n", good+"\r", "\n"+good, strings.ReplaceAll(good, " ", "\n"), good+"\n"+good, good+","+good, good+" "+good)
		l = append(l, strings.ToUpper(good), strings.ToUpper(good[:1])+good[1:], good[1:], words[0][:1]+good[len(words[0]):])
	}
	return l
}

func TestPatchOfWhatIsNoLine(t *testing.T) {
	patch := patcher()
	for _, p := range []api.Policy{policy.First(), one(), dense()} {
		valid := []string{"used 1", "role 1 -/-", "link 1 0", "role 0 1/1"}
		if p == one() {
			valid = forth()
		}
		want, e := patch(p, valid)
		if e != api.OK {
			t.Fatalf("%v: %v", p, valid)
		}
		checkPatch(t, p, valid, want)
		for _, s := range noLines() {
			if _, e := patch(p, append(stated(p), s)); e != api.ErrForm {
				t.Fatalf("%q is a line", s)
			}
			checkForm(t, p, s)
			checkForm(t, p, append([]string{s}, valid...)...)
			checkForm(t, p, append(slices.Clone(valid), s)...)
			checkForm(t, p, slices.Insert(slices.Clone(valid), len(valid)/2, s)...)
			checkForm(t, p, s, s)
		}
	}
}

// Every byte of lines, with every value, in place of it, ahead of it, and left out: some are lines too.
func TestPatchByteByByte(t *testing.T) {
	patch := patcher()
	p := bare(all, all)
	fine, others := 0, 0
	check := func(s string) {
		want, e := patch(p, []string{s})
		if e != api.OK {
			checkForm(t, p, s)
			others++
			return
		}
		checkPatch(t, p, []string{s}, want)
		fine++
	}
	for _, s := range []string{"dead 1", "used 12", "gone 3", "role 1 0,3/11", "role 10 -/-", "unlink 1 2", "link 10 11", "own 4 15", "free 0"} {
		for i := range len(s) + 1 {
			for b := range 256 {
				check(s[:i] + string([]byte{byte(b)}) + s[i:])
				if i < len(s) {
					check(s[:i] + string([]byte{byte(b)}) + s[i+1:])
				}
			}
			check(s[:i])
			check(s[i:])
			if i < len(s) {
				check(s[:i] + s[i+1:])
			}
		}
	}
	if fine < 200 || others < 20000 {
		t.Errorf("lines: %d, others: %d", fine, others)
	}
}

// Each way in which a policy can fail to be valid, and a line that mends it.
func TestPatchOfWhatIsNotValid(t *testing.T) {
	secret := bare(set(1, 2), set(0, 1))
	secret.Labels[1] = api.Label{S: set(0)}
	trusted := bare(set(1, 2), set(0, 1))
	trusted.Labels[1] = api.Label{I: set(1)}
	linked := bare(set(1, 2), set(0, 1))
	linked.Acts[1] = set(2)
	owned := bare(set(1, 2), set(0, 1))
	owned.Owner[0] = 1
	cases := []struct {
		name      string
		p         api.Policy
		bad, mend string
	}{
		{"a role's secrecy that is not in use", secret, "dead 0", "role 1 1/-"},
		{"a role's secrecy that never was in use", secret, "role 2 2/-", "role 2 1/-"},
		{"a role's integrity that is not in use", trusted, "dead 1", "role 1 -/0"},
		{"a role's integrity that never was in use", trusted, "role 2 -/15", "gone 2"},
		{"a role that is gone acts for another one", linked, "gone 1", "unlink 1 2"},
		{"a role acts for one that is gone", linked, "gone 2", "unlink 1 2"},
		{"a role that never was acts for another one", linked, "link 3 1", "role 3 -/-"},
		{"a role acts for one that never was", linked, "link 1 15", "role 15 -/-"},
		{"a role acts for itself", linked, "link 1 1", "unlink 1 1"},
		{"the owner is gone", owned, "gone 1", "free 0"},
		{"the owner never was", owned, "own 0 12", "role 12 -/-"},
		{"a tag that is not in use has an owner", owned, "dead 0", "free 0"},
		{"a tag that never was in use gets an owner", owned, "own 14 1", "used 14"},
	}
	patch := patcher()
	for _, c := range cases {
		checkForm(t, c.p, c.bad)
		checkForm(t, c.p, c.bad, "used 3", "role 4 0,1/0,1,3", "link 4 2", "own 3 4")
		checkForm(t, c.p, "used 3", "role 4 0,1/0,1,3", "link 4 2", "own 3 4", c.bad)
		lines := []string{c.bad, c.mend}
		want, e := patch(c.p, lines)
		if e != api.OK {
			t.Fatalf("%s: %q does not mend it", c.name, lines)
		}
		checkPatch(t, c.p, lines, want)
	}
}

// In the midst of these lines the policy is not valid, and behind the last one it is.
func TestPatchThatIsNotValidInTheMidst(t *testing.T) {
	l := forth()
	for n := 1; n < len(l); n++ {
		// The first tags are dead from the beginning, and the last owners go at the end.
		checkForm(t, one(), l[:n]...)
	}
	checkPatch(t, one(), l, two())
	slices.Reverse(l)
	checkPatch(t, one(), l, two())
}

// P15.3: applying the differences between two policies to the first one gives the second one.

func TestForthAndBack(t *testing.T) {
	checkPatch(t, one(), forth(), two())
	checkPatch(t, two(), back(), one())
	same := 0
	pairs(func(p, q api.Policy) {
		checkPatch(t, p, diff.Lines(p, q), q)
		checkPatch(t, q, diff.Lines(q, p), p)
		// Between a policy and itself there are no differences, and between others there are some.
		if n := len(diff.Lines(p, q)); (n == 0) != (p == q) {
			t.Fatalf("between %v and %v: %d lines", p, q, n)
		}
		if p == q {
			same++
		}
	})
	if same < len(samples()) {
		t.Errorf("pairs of equal policies: %d", same)
	}
}

// The differences of several steps behind one another lead as far as those of all of them.
func TestDifferencesBehindOneAnother(t *testing.T) {
	next := mixed()
	for _, first := range samples() {
		p := first
		var l []string
		for range 30 {
			q := nearby(p, next)
			l = append(l, diff.Lines(p, q)...)
			p = q
			checkPatch(t, first, l, p)
			checkPatch(t, first, diff.Lines(first, p), p)
		}
	}
}

// P15.4: each line states something that did not hold before.

func TestEachLineMatters(t *testing.T) {
	count := map[string]int{}
	errors := 0
	pairs(func(p, q api.Policy) {
		l := diff.Lines(p, q)
		was, is, there := counted(stated(p)), counted(stated(q)), counted(l)
		for i, s := range l {
			if was[s] != 0 || is[s] != 1 || there[s] != 1 {
				t.Fatalf("between %v and %v: %q, %d times", p, q, s, there[s])
			}
			got, e := diff.Patch(p, slices.Delete(slices.Clone(l), i, i+1))
			if e == api.OK && got == q {
				t.Fatalf("between %v and %v: nothing is missing without %q", p, q, s)
			}
			if e != api.OK {
				errors++
			}
			count[kindOf(s)]++
		}
	})
	checkKinds(t, count, 500)
	if errors < 500 {
		t.Errorf("errors: %d", errors)
	}
}

// R4: the arguments are left as they were, and results are new memory.

func TestArgumentsAreLeft(t *testing.T) {
	l := samples()
	for i, p := range l {
		q := l[(i+1)%len(l)]
		wasP, wasQ := p, q
		lines := diff.Lines(p, q)
		// Behind the list's end stands what is no line, within its capacity.
		whole := append(slices.Clone(lines), "no line", "used 16")
		was := slices.Clone(whole)
		got, e := diff.Patch(p, whole[:len(lines)])
		if got != q || e != api.OK {
			t.Fatalf("Patch(%v, %q) = %v, %v, want %v", p, lines, got, e, q)
		}
		checkForm(t, p, whole...)
		if p != wasP || q != wasQ || !slices.Equal(whole, was) {
			t.Fatalf("%v became %v, %v became %v, or %q became %q", wasP, p, wasQ, q, was, whole)
		}
		clear(lines)
		_ = append(lines[:0], "dead 1", "dead 2")
		if again := diff.Lines(p, q); !slices.Equal(again, was[:len(was)-2]) {
			t.Fatalf("Lines(%v, %v) = %q, and then %q", p, q, was[:len(was)-2], again)
		}
	}
}
