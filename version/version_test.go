package version_test

import (
	"bytes"
	"fmt"
	"math"
	"slices"
	"testing"

	"forepeak/api"
	"forepeak/policy"
	"forepeak/version"
	"forepeak/wire"
)

// The signatures are those of the chapter.
var (
	_ func(p api.Policy) *version.Store                           = version.New
	_ func(s *version.Store) int                                  = (*version.Store).Epoch
	_ func(s *version.Store) api.Policy                           = (*version.Store).Now
	_ func(s *version.Store, e int) (api.Policy, api.Errno)       = (*version.Store).At
	_ func(s *version.Store, p api.Policy) api.Errno              = (*version.Store).Commit
	_ func(s *version.Store) []api.Policy                         = (*version.Store).Kept
	_ func(epoch int) int                                         = version.Kept
	_ func(epoch int, l []api.Policy) (*version.Store, api.Errno) = version.Of
	_ func(epoch int, l []api.Policy) []byte                      = version.Bytes
	_ func(r *wire.Reader) (int, []api.Policy)                    = version.Read
)

const all = 65535

// noEpochs are numbers that are no epochs.
var noEpochs = []int{math.MinInt, math.MinInt + 1, math.MinInt32, -65536, -257, -256, -255, -9, -8, -7, -2, -1, 256, 257, 263, 264, 511, 512, 65535, 65536, math.MaxInt32, math.MaxInt - 1, math.MaxInt}

// someEpochs are epochs in which one, some and eight policies are kept.
var someEpochs = []int{0, 1, 2, 3, 6, 7, 8, 9, 100, 254, 255}

// set is the set of some roles or tags, without any function of the program.
func set(members ...int) uint16 {
	var s uint16
	for _, m := range members {
		s |= 1 << m
	}
	return s
}

// has tells whether a role or tag is in a set, without any function of the program.
func has(s uint16, m int) bool { return s>>m&1 == 1 }

// mixed returns a source of numbers that look like any, the same ones in each run.
func mixed() func(below int) int {
	x := uint64(1)
	return func(below int) int {
		x = x*6364136223846793005 + 1442695040888963407
		return int(x>>33) % below
	}
}

// nobody are the owners of tags that have none.
func nobody() [16]uint8 {
	var owner [16]uint8
	for t := range owner {
		owner[t] = 16
	}
	return owner
}

// numbered is a valid policy that is another one for each number from 0 to 65535: the number is role 0's secrecy. Some other roles are live too, so that not all have equally many bytes.
func numbered(n int) api.Policy {
	p := api.Policy{Live: 1 | set(n%16, n/5%16), Active: all, Owner: nobody()}
	p.Labels[0] = api.Label{S: uint16(n), I: uint16(n * 257)}
	p.Owner[n%16] = 0
	for r := 1; r < 16; r++ {
		if has(p.Live, r) {
			p.Labels[r] = api.Label{S: set(r)}
			p.Acts[r] = 1
			p.Owner[(n+r)%16] = uint8(r)
		}
	}
	return p
}

// run are numbered policies, from one number up to another one.
func run(from, to int) []api.Policy {
	var l []api.Policy
	for n := from; n <= to; n++ {
		l = append(l, numbered(n))
	}
	return l
}

// lots is how many policies are kept in an epoch, by the words of the chapter.
func lots(epoch int) int {
	if epoch < 0 || epoch > 255 {
		return 0
	}
	if epoch+1 > 8 {
		return 8
	}
	return epoch + 1
}

// keptIn are the policies that are kept in an epoch, if each epoch's has the epoch's number.
func keptIn(epoch int) []api.Policy { return run(epoch+1-lots(epoch), epoch) }

// noLive is the policy without live roles in which no tag is in use.
func noLive() api.Policy { return api.Policy{Owner: nobody()} }

// allLive is the policy in which all roles are live, each acts for the next one and owns its tag, and role r has the secrecies below r.
func allLive() api.Policy {
	p := api.Policy{Live: all, Active: all}
	for r := range 16 {
		p.Labels[r] = api.Label{S: 1<<r - 1, I: all}
		p.Acts[r] = 1 << ((r + 1) % 16)
		p.Owner[r] = uint8(r)
	}
	return p
}

// mixedPolicy is a valid policy.
func mixedPolicy(next func(below int) int) api.Policy {
	p := api.Policy{Live: uint16(next(65536)), Active: uint16(next(65536)), Owner: nobody()}
	for r := range 16 {
		if has(p.Live, r) {
			p.Labels[r] = api.Label{S: p.Active & uint16(next(65536)), I: p.Active & uint16(next(65536))}
			p.Acts[r] = p.Live & uint16(next(65536)) &^ set(r)
		}
	}
	for t := range 16 {
		if r := next(16); has(p.Active, t) && has(p.Live, r) {
			p.Owner[t] = uint8(r)
		}
	}
	return p
}

// mixedList are valid policies: as many as are kept in an epoch.
func mixedList(epoch int, next func(below int) int) []api.Policy {
	ends := []api.Policy{policy.First(), noLive(), allLive()}
	l := make([]api.Policy, lots(epoch))
	for i := range l {
		l[i] = mixedPolicy(next)
		if n := next(8); n < len(ends) {
			l[i] = ends[n]
		}
	}
	return l
}

// zeros are policies that are all the zero policy, which is not valid: its tags' owner is a role that is not live.
func zeros(n int) []api.Policy { return make([]api.Policy, n) }

// at is At by the words of the chapter, of a store with an epoch and what is kept.
func at(epoch int, kept []api.Policy, e int) (api.Policy, api.Errno) {
	if e < 0 || e > epoch {
		return api.Policy{}, api.ErrRange
	}
	// One after the other, from the last one back.
	for i, n := len(kept)-1, epoch; i >= 0; i, n = i-1, n-1 {
		if n == e {
			return kept[i], api.OK
		}
	}
	return api.Policy{}, api.ErrNone
}

// checkStore asks a store for all that it tells, twice.
func checkStore(t *testing.T, name string, s *version.Store, epoch int, kept []api.Policy) {
	t.Helper()
	if len(kept) != lots(epoch) {
		t.Fatalf("%s: the test wants %d policies of epoch %d", name, len(kept), epoch)
	}
	for range 2 {
		if got := s.Epoch(); got != epoch {
			t.Fatalf("%s: Epoch() = %d, want %d", name, got, epoch)
		}
		if got := s.Now(); got != kept[len(kept)-1] {
			t.Fatalf("%s, epoch %d: Now() = %v, want %v", name, epoch, got, kept[len(kept)-1])
		}
		if got := s.Kept(); !slices.Equal(got, kept) {
			t.Fatalf("%s, epoch %d: Kept() = %v, want %v", name, epoch, got, kept)
		}
	}
	for e := -20; e <= epoch+20; e++ {
		checkAt(t, name, s, epoch, kept, e)
	}
	for _, e := range noEpochs {
		checkAt(t, name, s, epoch, kept, e)
	}
}

// checkAt asks a store for an epoch's policy.
func checkAt(t *testing.T, name string, s *version.Store, epoch int, kept []api.Policy, e int) {
	t.Helper()
	want, err := at(epoch, kept, e)
	if got, goterr := s.At(e); got != want || goterr != err {
		t.Fatalf("%s, epoch %d: At(%d) = %v, %v, want %v, %v", name, epoch, e, got, goterr, want, err)
	}
}

// checkNone asks for all that a store tells that is none.
func checkNone(t *testing.T, name string, s *version.Store) {
	t.Helper()
	for range 2 {
		if got := s.Epoch(); got != 0 {
			t.Errorf("%s: Epoch() = %d", name, got)
		}
		if got := s.Now(); got != (api.Policy{}) {
			t.Errorf("%s: Now() = %v", name, got)
		}
		if got := s.Kept(); len(got) != 0 {
			t.Errorf("%s: Kept() = %v", name, got)
		}
		for _, e := range append([]int{0, 1, 7, 8, 255}, noEpochs...) {
			if got, err := s.At(e); got != (api.Policy{}) || err != api.ErrNil {
				t.Errorf("%s: At(%d) = %v, %v", name, e, got, err)
			}
		}
		for _, p := range []api.Policy{{}, policy.First(), numbered(3)} {
			if err := s.Commit(p); err != api.ErrNil {
				t.Errorf("%s: Commit: %v", name, err)
			}
		}
	}
}

// of is a store that Of returns.
func of(t *testing.T, epoch int, l []api.Policy) *version.Store {
	t.Helper()
	s, e := version.Of(epoch, l)
	if s == nil || e != api.OK {
		t.Fatalf("Of(%d, %d policies): %v, %v", epoch, len(l), s, e)
	}
	return s
}

// commit commits a policy, without an error.
func commit(t *testing.T, s *version.Store, p api.Policy) {
	t.Helper()
	if e := s.Commit(p); e != api.OK {
		t.Fatalf("Commit in the epoch %d: %v", s.Epoch(), e)
	}
}

// P14.1: New, Epoch, Now, At, Commit, Kept.

func TestExampleOfTheChapter(t *testing.T) {
	s := version.New(numbered(0))
	for n := 1; n <= 9; n++ {
		commit(t, s, numbered(n))
	}
	if e := s.Epoch(); e != 9 {
		t.Errorf("Epoch() = %d", e)
	}
	if p, e := s.At(1); p != (api.Policy{}) || e != api.ErrNone {
		t.Errorf("At(1) = %v, %v", p, e)
	}
	if p, e := s.At(2); p != numbered(2) || e != api.OK {
		t.Errorf("At(2) = %v, %v", p, e)
	}
	if l := s.Kept(); len(l) != 8 || l[0] != numbered(2) || l[7] != numbered(9) {
		t.Errorf("Kept() = %v", l)
	}
}

func TestNew(t *testing.T) {
	next := mixed()
	l := []api.Policy{policy.First(), noLive(), allLive(), numbered(7)}
	for range 30 {
		l = append(l, mixedPolicy(next))
	}
	// Nothing is said of policies that are not valid: a store takes them as they are.
	broken := allLive()
	broken.Owner[3] = 99
	l = append(l, api.Policy{}, broken)
	for i, p := range l {
		s := version.New(p)
		checkStore(t, fmt.Sprint("policy ", i), s, 0, []api.Policy{p})
		commit(t, s, l[0])
		checkStore(t, fmt.Sprint("behind policy ", i), s, 1, []api.Policy{p, l[0]})
	}
}

// What a policy becomes after it was given does not matter: it is a value.
func TestNewOfAPolicyThatIsChanged(t *testing.T) {
	p := numbered(1)
	s := version.New(p)
	p.Acts[3], p.Owner[3], p.Live = 9, 9, 9
	checkStore(t, "New", s, 0, run(1, 1))
	q := numbered(2)
	commit(t, s, q)
	q.Acts[3], q.Owner[3], q.Live = 9, 9, 9
	checkStore(t, "Commit", s, 1, run(1, 2))
}

func TestCommitOneByOne(t *testing.T) {
	s := version.New(numbered(0))
	for epoch := range 256 {
		if epoch > 0 {
			commit(t, s, numbered(epoch))
		}
		checkStore(t, "one by one", s, epoch, keptIn(epoch))
	}
	for range 3 {
		for _, p := range []api.Policy{numbered(256), numbered(255), {}} {
			if e := s.Commit(p); e != api.ErrLimit {
				t.Errorf("Commit in the last epoch: %v", e)
			}
			checkStore(t, "behind the last epoch", s, 255, keptIn(255))
		}
	}
}

// The same policy may be committed more than once.
func TestCommitOfTheSamePolicy(t *testing.T) {
	s := version.New(policy.First())
	for epoch := 1; epoch < 20; epoch++ {
		commit(t, s, policy.First())
		checkStore(t, "the same", s, epoch, slices.Repeat([]api.Policy{policy.First()}, lots(epoch)))
	}
}

func TestAt(t *testing.T) {
	cases := []struct {
		epoch, at int
		e         api.Errno
	}{
		{0, 0, api.OK}, {0, 1, api.ErrRange}, {0, -1, api.ErrRange},
		{1, 0, api.OK}, {1, 1, api.OK}, {1, 2, api.ErrRange},
		{6, 0, api.OK}, {6, 6, api.OK}, {6, 7, api.ErrRange},
		{7, 0, api.OK}, {7, 7, api.OK}, {7, 8, api.ErrRange}, {7, -1, api.ErrRange},
		{8, 0, api.ErrNone}, {8, 1, api.OK}, {8, 8, api.OK}, {8, 9, api.ErrRange}, {8, -1, api.ErrRange},
		{9, 0, api.ErrNone}, {9, 1, api.ErrNone}, {9, 2, api.OK}, {9, 9, api.OK}, {9, 10, api.ErrRange},
		{100, 0, api.ErrNone}, {100, 92, api.ErrNone}, {100, 93, api.OK}, {100, 100, api.OK}, {100, 101, api.ErrRange},
		{255, 0, api.ErrNone}, {255, 247, api.ErrNone}, {255, 248, api.OK}, {255, 255, api.OK}, {255, 256, api.ErrRange},
		// An epoch that is negative is not one that is not kept any more.
		{9, -1, api.ErrRange}, {9, -8, api.ErrRange}, {255, -1, api.ErrRange}, {255, math.MinInt, api.ErrRange}, {255, math.MaxInt, api.ErrRange},
	}
	for _, k := range cases {
		want := api.Policy{}
		if k.e == api.OK {
			want = numbered(k.at)
		}
		s := version.New(numbered(0))
		for n := 1; n <= k.epoch; n++ {
			commit(t, s, numbered(n))
		}
		if p, e := s.At(k.at); p != want || e != k.e {
			t.Errorf("in the epoch %d At(%d) = %v, %v, want %v, %v", k.epoch, k.at, p, e, want, k.e)
		}
	}
}

// Stores do not know of one another.
func TestStoresSideBySide(t *testing.T) {
	var stores []*version.Store
	for i := range 8 {
		stores = append(stores, version.New(numbered(1000*i)))
	}
	for epoch := 1; epoch < 30; epoch++ {
		for i, s := range stores {
			// The last store stays as it is.
			if i < 7 {
				commit(t, s, numbered(1000*i+epoch))
			}
		}
		for i, s := range stores[:7] {
			checkStore(t, fmt.Sprint("store ", i), s, epoch, run(1000*i+epoch+1-lots(epoch), 1000*i+epoch))
		}
		checkStore(t, "the last store", stores[7], 0, run(7000, 7000))
	}
}

// P14.2: Kept, Of.

func TestKept(t *testing.T) {
	for _, e := range noEpochs {
		if n := version.Kept(e); n != 0 {
			t.Errorf("Kept(%d) = %d", e, n)
		}
	}
	for e := -300; e < 600; e++ {
		if n := version.Kept(e); n != lots(e) {
			t.Errorf("Kept(%d) = %d, want %d", e, n, lots(e))
		}
	}
	want := map[int]int{-1: 0, 0: 1, 1: 2, 2: 3, 3: 4, 4: 5, 5: 6, 6: 7, 7: 8, 8: 8, 9: 8, 254: 8, 255: 8, 256: 0}
	for e, n := range want {
		if got := version.Kept(e); got != n {
			t.Errorf("Kept(%d) = %d, want %d", e, got, n)
		}
	}
}

func TestOf(t *testing.T) {
	for epoch := range 256 {
		for n := range 20 {
			l := run(epoch+1000, epoch+999+n)
			if n == lots(epoch) {
				checkStore(t, "Of", of(t, epoch, l), epoch, l)
				continue
			}
			for _, wrong := range [][]api.Policy{l, zeros(n)} {
				s, e := version.Of(epoch, wrong)
				if s != nil || e != api.ErrForm {
					t.Fatalf("Of(%d, %d policies) = %v, %v", epoch, n, s, e)
				}
				checkNone(t, "of the wrong number", s)
			}
		}
		if s, e := version.Of(epoch, nil); s != nil || e != api.ErrForm {
			t.Fatalf("Of(%d, nil) = %v, %v", epoch, s, e)
		}
	}
}

// What is no epoch is the error, whatever the number of policies: even if it is that of Kept.
func TestOfNoEpoch(t *testing.T) {
	for _, epoch := range noEpochs {
		for n := range 20 {
			for _, l := range [][]api.Policy{run(1, n), zeros(n)} {
				s, e := version.Of(epoch, l)
				if s != nil || e != api.ErrRange {
					t.Errorf("Of(%d, %d policies) = %v, %v", epoch, n, s, e)
				}
				checkNone(t, "of no epoch", s)
			}
		}
		if s, e := version.Of(epoch, nil); s != nil || e != api.ErrRange {
			t.Errorf("Of(%d, nil) = %v, %v", epoch, s, e)
		}
	}
}

// Policies are taken as they are, valid or not, as by New and Commit.
func TestOfPoliciesThatAreNotValid(t *testing.T) {
	for _, epoch := range someEpochs {
		checkStore(t, "zero policies", of(t, epoch, zeros(lots(epoch))), epoch, zeros(lots(epoch)))
		for i := range lots(epoch) {
			l := keptIn(epoch)
			l[i].Owner[5] = 77
			checkStore(t, "a policy that is not valid", of(t, epoch, l), epoch, l)
		}
	}
}

// A store that Of made goes on like one in which all epochs were committed.
func TestCommitBehindOf(t *testing.T) {
	for epoch := range 256 {
		s := of(t, epoch, keptIn(epoch))
		to := min(epoch+20, 255)
		for e := epoch + 1; e <= to; e++ {
			commit(t, s, numbered(e))
			checkStore(t, "behind Of", s, e, keptIn(e))
		}
		if to < 255 {
			continue
		}
		for range 2 {
			if e := s.Commit(numbered(256)); e != api.ErrLimit {
				t.Errorf("Commit in the last epoch: %v", e)
			}
			checkStore(t, "behind the last epoch", s, 255, keptIn(255))
		}
	}
}

// P14.3: Bytes, Read.

// two are the bytes of a number in two bytes.
func two(n uint16) []byte { return []byte{byte(n >> 8), byte(n)} }

// policyBytes are a policy's bytes, by the words of chapter 12.
func policyBytes(p api.Policy) []byte {
	b := two(p.Live)
	for r := range 16 {
		if has(p.Live, r) {
			b = append(b, two(p.Labels[r].S)...)
			b = append(b, two(p.Labels[r].I)...)
			b = append(b, two(p.Acts[r])...)
		}
	}
	b = append(b, two(p.Active)...)
	return append(b, p.Owner[:]...)
}

// bytesOf is Bytes by the words of the chapter.
func bytesOf(epoch int, l []api.Policy) []byte {
	b := []byte{byte(epoch)}
	for _, p := range l {
		b = append(b, policyBytes(p)...)
	}
	return b
}

// readOf is Read by the words of the chapter and by the function of layer 12: the epoch, the policies, the error, and how many bytes are left.
func readOf(b []byte) (int, []api.Policy, api.Errno, int) {
	if len(b) == 0 {
		return 0, nil, api.ErrEnd, 0
	}
	epoch, rest := int(b[0]), b[1:]
	var l []api.Policy
	for range lots(epoch) {
		r := wire.NewReader(rest)
		p := policy.Read(r)
		if r.Err() != api.OK {
			return 0, nil, r.Err(), 0
		}
		l, rest = append(l, p), rest[len(rest)-r.Left():]
	}
	return epoch, l, api.OK, len(rest)
}

// checkRead reads bytes and holds the epoch, the policies, the error and what is left against the wanted ones.
func checkRead(t *testing.T, b []byte, epoch int, l []api.Policy, e api.Errno, left int) {
	t.Helper()
	r := wire.NewReader(b)
	gotEpoch, got := version.Read(r)
	if gotEpoch != epoch || !slices.Equal(got, l) || r.Err() != e || r.Left() != left {
		t.Fatalf("Read(%v) = %d, %v, error %v, %d left, want %d, %v, error %v, %d left", b, gotEpoch, got, r.Err(), r.Left(), epoch, l, e, left)
	}
}

// checkNotRead reads bytes that are not a store's.
func checkNotRead(t *testing.T, b []byte, e api.Errno) {
	t.Helper()
	checkRead(t, b, 0, nil, e, 0)
}

func TestBytesByteByByte(t *testing.T) {
	one := api.Policy{Live: set(1), Active: set(0, 8), Owner: nobody()}
	one.Labels[1] = api.Label{S: set(8), I: set(0)}
	one.Owner[8] = 1
	more := one
	more.Live |= set(15)
	more.Acts[15] = set(1)
	more.Owner[0] = 15
	first := "\x00\x01" + "\x00\x00\xff\xff\x00\x00" + "\xff\xff" + "\x00\x00\x00\x00\x00\x00\x00\x00\x00\x00\x00\x00\x00\x00\x00\x00"
	none := "\x00\x00" + "\x00\x00" + "\x10\x10\x10\x10\x10\x10\x10\x10\x10\x10\x10\x10\x10\x10\x10\x10"
	ones := "\x00\x02" + "\x01\x00\x00\x01\x00\x00" + "\x01\x01" + "\x10\x10\x10\x10\x10\x10\x10\x10\x01\x10\x10\x10\x10\x10\x10\x10"
	mores := "\x80\x02" + "\x01\x00\x00\x01\x00\x00" + "\x00\x00\x00\x00\x00\x02" + "\x01\x01" + "\x0f\x10\x10\x10\x10\x10\x10\x10\x01\x10\x10\x10\x10\x10\x10\x10"
	p, q := policy.First(), noLive()
	cases := []struct {
		name  string
		epoch int
		l     []api.Policy
		want  string
	}{
		{"the first policy", 0, []api.Policy{p}, "\x00" + first},
		{"another policy", 0, []api.Policy{more}, "\x00" + mores},
		{"two", 1, []api.Policy{p, one}, "\x01" + first + ones},
		{"the other way round", 1, []api.Policy{one, p}, "\x01" + ones + first},
		{"three", 2, []api.Policy{q, more, one}, "\x02" + none + mores + ones},
		{"eight", 7, []api.Policy{p, q, one, more, more, one, q, p}, "\x07" + first + none + ones + mores + mores + ones + none + first},
		{"eight of more", 8, []api.Policy{q, q, q, more, p, p, p, one}, "\x08" + none + none + none + mores + first + first + first + ones},
		{"eight of many", 128, []api.Policy{one, p, q, p, q, p, q, more}, "\x80" + ones + first + none + first + none + first + none + mores},
		{"the last epoch", 255, []api.Policy{more, one, one, one, one, one, one, q}, "\xff" + mores + ones + ones + ones + ones + ones + ones + none},
	}
	for _, k := range cases {
		if got := version.Bytes(k.epoch, k.l); string(got) != k.want {
			t.Errorf("%s: %v, want %v", k.name, got, []byte(k.want))
		}
		checkRead(t, []byte(k.want), k.epoch, k.l, api.OK, 0)
	}
}

func TestBytesAndBack(t *testing.T) {
	next := mixed()
	for epoch := range 256 {
		for _, l := range [][]api.Policy{keptIn(epoch), mixedList(epoch, next), mixedList(epoch, next)} {
			b := version.Bytes(epoch, l)
			if want := bytesOf(epoch, l); !bytes.Equal(b, want) {
				t.Fatalf("Bytes(%d, %v) = %v, want %v", epoch, l, b, want)
			}
			checkRead(t, b, epoch, l, api.OK, 0)
		}
	}
}

// Nothing is promised of Bytes of what is no store, but that it ends.
func TestBytesOfNoStore(t *testing.T) {
	for _, epoch := range append([]int{0, 7, 255}, noEpochs...) {
		for n := range 20 {
			version.Bytes(epoch, run(1, n))
			version.Bytes(epoch, zeros(n))
		}
		version.Bytes(epoch, nil)
	}
	for _, epoch := range noEpochs {
		if b := version.Bytes(epoch, keptIn(7)); len(b) != 0 {
			t.Errorf("Bytes(%d, ..) = %v", epoch, b)
		}
	}
}

func TestReadOfEveryShorterBeginning(t *testing.T) {
	next := mixed()
	checkNotRead(t, nil, api.ErrEnd)
	for _, epoch := range someEpochs {
		for _, l := range [][]api.Policy{keptIn(epoch), mixedList(epoch, next)} {
			b := version.Bytes(epoch, l)
			for n := range b {
				checkNotRead(t, b[:n], api.ErrEnd)
			}
		}
	}
	// The epoch alone, and one policy too few.
	for epoch := range 256 {
		checkNotRead(t, []byte{byte(epoch)}, api.ErrEnd)
		checkNotRead(t, bytesOf(epoch, keptIn(epoch)[1:]), api.ErrEnd)
	}
}

func TestReadLeavesBytesBehind(t *testing.T) {
	next := mixed()
	for _, epoch := range someEpochs {
		l := mixedList(epoch, next)
		b := version.Bytes(epoch, l)
		for n := 1; n < 30; n++ {
			checkRead(t, append(bytes.Clone(b), make([]byte, n)...), epoch, l, api.OK, n)
			checkRead(t, append(bytes.Clone(b), bytes.Repeat([]byte{255}, n)...), epoch, l, api.OK, n)
		}
		// One policy too many is left behind.
		more := policyBytes(allLive())
		checkRead(t, append(bytes.Clone(b), more...), epoch, l, api.OK, len(more))
		for _, other := range someEpochs {
			readTwo(t, epoch, l, other, keptIn(other))
		}
	}
}

// readTwo reads two stores and a number that are written behind each other.
func readTwo(t *testing.T, first int, l []api.Policy, second int, m []api.Policy) {
	t.Helper()
	b := slices.Concat(version.Bytes(first, l), version.Bytes(second, m), []byte{7})
	r := wire.NewReader(b)
	if e, got := version.Read(r); e != first || !slices.Equal(got, l) || r.Err() != api.OK {
		t.Fatalf("the first of two: %d, %v, error %v", e, got, r.Err())
	}
	if e, got := version.Read(r); e != second || !slices.Equal(got, m) || r.Err() != api.OK {
		t.Fatalf("the second of two: %d, %v, error %v", e, got, r.Err())
	}
	if n := r.Num(1, 255); n != 7 || r.Err() != api.OK || r.Left() != 0 {
		t.Fatalf("behind two stores: %d, error %v, %d left", n, r.Err(), r.Left())
	}
}

// badPolicy is a policy that is not valid, and the error of reading it.
type badPolicy struct {
	name string
	p    api.Policy
	e    api.Errno
}

// badPolicies are policies of which one thing each is not valid.
func badPolicies() []badPolicy {
	var l []badPolicy
	add := func(name string, e api.Errno, f func(p *api.Policy)) {
		p := api.Policy{Live: set(1, 2), Active: set(3, 4), Owner: nobody()}
		p.Labels[1].S = set(3)
		p.Owner[4] = 2
		f(&p)
		l = append(l, badPolicy{name, p, e})
	}
	add("acts for itself", api.ErrForm, func(p *api.Policy) { p.Acts[1] = set(1) })
	add("acts for a role that is not live", api.ErrForm, func(p *api.Policy) { p.Acts[2] = set(5) })
	add("secrecy that is not in use", api.ErrForm, func(p *api.Policy) { p.Labels[1].S |= set(5) })
	add("integrity that is not in use", api.ErrForm, func(p *api.Policy) { p.Labels[2].I |= set(0) })
	add("an owner that is not live", api.ErrForm, func(p *api.Policy) { p.Owner[3] = 5 })
	add("an owner of a tag that is not in use", api.ErrForm, func(p *api.Policy) { p.Owner[0] = 1 })
	add("an owner above its range", api.ErrRange, func(p *api.Policy) { p.Owner[3] = 17 })
	add("the greatest owner", api.ErrRange, func(p *api.Policy) { p.Owner[15] = 255 })
	add("a range ahead of a form", api.ErrRange, func(p *api.Policy) { p.Acts[1], p.Owner[0] = set(1), 17 })
	return l
}

// A policy that is not valid is the error, at each place, ahead of all that is missing or not valid behind it.
func TestReadOfPoliciesThatAreNotValid(t *testing.T) {
	for _, bad := range badPolicies() {
		for _, epoch := range someEpochs {
			for i := range lots(epoch) {
				l := keptIn(epoch)
				l[i] = bad.p
				b := bytesOf(epoch, l)
				checkNotRead(t, b, bad.e)
				checkNotRead(t, append(bytes.Clone(b), 1, 2, 3), bad.e)
				// Cut off behind it, and within it.
				end := len(bytesOf(epoch, l[:i+1]))
				checkNotRead(t, b[:end], bad.e)
				if bad.e == api.ErrForm {
					checkNotRead(t, b[:end-1], api.ErrEnd)
				}
				checkNotRead(t, b[:end-17], api.ErrEnd)
			}
		}
	}
}

// The first one of two that are not valid counts.
func TestReadOfTwoPoliciesThatAreNotValid(t *testing.T) {
	bad := badPolicies()
	for _, one := range bad {
		for _, two := range bad {
			for _, epoch := range []int{1, 2, 7, 200} {
				for i := range lots(epoch) {
					for j := range i {
						l := keptIn(epoch)
						l[j], l[i] = one.p, two.p
						checkNotRead(t, bytesOf(epoch, l), one.e)
					}
				}
			}
		}
	}
}

// Every byte of stores, with every value: some of them are stores too.
func TestReadByteByByte(t *testing.T) {
	count := map[api.Errno]int{}
	for _, epoch := range []int{0, 1, 4, 7, 255} {
		b := version.Bytes(epoch, keptIn(epoch))
		for i, was := range b {
			for n := range 256 {
				b[i] = byte(n)
				want, l, e, left := readOf(b)
				checkRead(t, b, want, l, e, left)
				count[e]++
			}
			b[i] = was
		}
	}
	for _, e := range []api.Errno{api.OK, api.ErrForm, api.ErrRange, api.ErrEnd} {
		if count[e] < 200 {
			t.Errorf("error %d: %d times", e, count[e])
		}
	}
}

func TestReadByAReaderThatFailed(t *testing.T) {
	for _, e := range []api.Errno{api.ErrArg, api.ErrEnd, api.ErrMany, api.ErrForm, api.ErrRange, api.ErrNil, api.ErrDown} {
		for _, epoch := range someEpochs {
			r := wire.NewReader(version.Bytes(epoch, keptIn(epoch)))
			r.Fail(e)
			for range 2 {
				if got, l := version.Read(r); got != 0 || len(l) != 0 || r.Err() != e || r.Left() != 0 {
					t.Fatalf("after the error %d: %d, %v, error %v", e, got, l, r.Err())
				}
			}
		}
	}
	// Its own errors stay as well, though a store stands behind it.
	behind := version.Bytes(0, keptIn(0))
	for _, bad := range badPolicies() {
		r := wire.NewReader(append(bytesOf(0, []api.Policy{bad.p}), behind...))
		for range 3 {
			if got, l := version.Read(r); got != 0 || len(l) != 0 || r.Err() != bad.e || r.Left() != 0 {
				t.Fatalf("%s: %d, %v, error %v", bad.name, got, l, r.Err())
			}
		}
	}
}

func TestReadByNoReader(t *testing.T) {
	var none *wire.Reader
	for range 2 {
		if e, l := version.Read(none); e != 0 || len(l) != 0 || none.Err() != api.ErrNil {
			t.Errorf("a nil Reader: %d, %v, error %v", e, l, none.Err())
		}
	}
	// A Reader of no bytes.
	var empty wire.Reader
	if e, l := version.Read(&empty); e != 0 || len(l) != 0 || empty.Err() != api.ErrEnd {
		t.Errorf("a Reader of no bytes: %d, %v, error %v", e, l, empty.Err())
	}
}

// P14.4: nil.

func TestNoStore(t *testing.T) {
	var zero version.Store
	checkNone(t, "a nil store", nil)
	checkNone(t, "the zero store", &zero)
	checkNone(t, "a new one", new(version.Store))
	checkNone(t, "one in a list", &make([]version.Store, 3)[1])
	for _, k := range []struct {
		epoch int
		l     []api.Policy
	}{{-1, run(0, 7)}, {256, run(0, 7)}, {0, nil}, {0, run(0, 1)}, {7, run(0, 6)}, {255, run(0, 8)}} {
		s, e := version.Of(k.epoch, k.l)
		if e == api.OK {
			t.Errorf("Of(%d, %d policies): no error", k.epoch, len(k.l))
		}
		checkNone(t, "one that Of did not make", s)
	}
}

// P14.5: At returns the policy that was committed for an epoch as long as it is kept.

func TestWhatWasCommittedIsThereAsLongAsItIsKept(t *testing.T) {
	next := mixed()
	for range 3 {
		var committed []api.Policy
		committed = append(committed, mixedPolicy(next))
		s := version.New(committed[0])
		for len(committed) < 256 {
			p := mixedPolicy(next)
			commit(t, s, p)
			committed = append(committed, p)
			epoch := len(committed) - 1
			for e, p := range committed {
				want, err := p, api.OK
				if e+8 <= epoch {
					want, err = api.Policy{}, api.ErrNone
				}
				if got, goterr := s.At(e); got != want || goterr != err {
					t.Fatalf("in the epoch %d At(%d) = %v, %v, want %v, %v", epoch, e, got, goterr, want, err)
				}
			}
		}
		// A Commit that fails drops nothing.
		s.Commit(mixedPolicy(next))
		for e := 248; e < 256; e++ {
			if got, err := s.At(e); got != committed[e] || err != api.OK {
				t.Fatalf("behind the last epoch At(%d) = %v, %v", e, got, err)
			}
		}
	}
}

// P14.6: A store that was read has the bytes from which it was read.

func TestWhatWasReadHasItsBytes(t *testing.T) {
	next := mixed()
	for epoch := range 256 {
		for range 3 {
			b := bytesOf(epoch, mixedList(epoch, next))
			r := wire.NewReader(append(bytes.Clone(b), 1, 2, 3))
			e, l := version.Read(r)
			if got := version.Bytes(e, l); !bytes.Equal(got, b) {
				t.Fatalf("%v was read, and has the bytes %v", b, got)
			}
			s := of(t, e, l)
			if got := version.Bytes(s.Epoch(), s.Kept()); !bytes.Equal(got, b) {
				t.Fatalf("%v was read, and the store has the bytes %v", b, got)
			}
			checkStore(t, "that was read", s, epoch, l)
		}
	}
}

// A store that is written and read at each step goes on like one that is not.
func TestWrittenAndReadAtEachStep(t *testing.T) {
	s := version.New(numbered(0))
	for epoch := 1; epoch < 256; epoch++ {
		e, l := version.Read(wire.NewReader(version.Bytes(s.Epoch(), s.Kept())))
		s = of(t, e, l)
		commit(t, s, numbered(epoch))
		checkStore(t, "written and read", s, epoch, keptIn(epoch))
	}
}

// Whatever can be read of changed bytes has these bytes.
func TestWhatWasReadOfChangedBytesHasThem(t *testing.T) {
	for _, epoch := range []int{0, 2, 9} {
		b := version.Bytes(epoch, keptIn(epoch))
		for i, was := range b {
			for n := range 256 {
				b[i] = byte(n)
				r := wire.NewReader(b)
				e, l := version.Read(r)
				if read := b[:len(b)-r.Left()]; r.Err() == api.OK && !bytes.Equal(version.Bytes(e, l), read) {
					t.Fatalf("%v was read, and has the bytes %v", read, version.Bytes(e, l))
				}
			}
			b[i] = was
		}
	}
}

// R4: the arguments are left as they were, and results are new memory.

// foreign is a policy that none of the stores has.
func foreign() api.Policy { return api.Policy{Live: 77, Active: 77} }

// spoil changes all policies of a list, appends to it, and changes what is there behind its end.
func spoil(l []api.Policy) {
	for i := range l {
		l[i] = foreign()
	}
	l = append(l, foreign(), foreign())
	l = l[:cap(l)]
	for i := range l {
		l[i] = foreign()
	}
}

func TestKeptIsNewMemory(t *testing.T) {
	for epoch := range 256 {
		s := of(t, epoch, keptIn(epoch))
		one, two := s.Kept(), s.Kept()
		spoil(one)
		checkStore(t, "Kept was changed", s, epoch, keptIn(epoch))
		if !slices.Equal(two, keptIn(epoch)) {
			t.Fatalf("what Kept returned first was changed, and then what it returned second: %v", two)
		}
		if epoch == 255 {
			continue
		}
		// What is committed later is not seen in it, and what is appended to it not in the store.
		one = append(s.Kept(), foreign())
		commit(t, s, numbered(epoch+1))
		checkStore(t, "Kept was appended to", s, epoch+1, keptIn(epoch+1))
		if !slices.Equal(two, keptIn(epoch)) || !slices.Equal(one[:len(one)-1], keptIn(epoch)) || one[len(one)-1] != foreign() {
			t.Fatalf("what Kept had returned was changed: %v, %v", two, one)
		}
	}
}

func TestKeptOfAStoreThatWasCommittedTo(t *testing.T) {
	s := version.New(numbered(0))
	var earlier [][]api.Policy
	for epoch := range 256 {
		if epoch > 0 {
			commit(t, s, numbered(epoch))
		}
		earlier = append(earlier, s.Kept())
		spoil(s.Kept())
		checkStore(t, "Kept was changed", s, epoch, keptIn(epoch))
	}
	for epoch, l := range earlier {
		if !slices.Equal(l, keptIn(epoch)) {
			t.Fatalf("what Kept returned in the epoch %d became %v", epoch, l)
		}
	}
}

func TestOfKeepsNoList(t *testing.T) {
	for epoch := range 256 {
		// Behind the list's end there are policies, within its capacity.
		whole := append(keptIn(epoch), run(5000, 5004)...)
		was := slices.Clone(whole)
		l := whole[:lots(epoch)]
		s, again := of(t, epoch, l), of(t, epoch, l)
		for e := epoch + 1; e <= min(epoch+3, 255); e++ {
			commit(t, s, numbered(e))
		}
		s.Kept()
		if !slices.Equal(whole, was) {
			t.Fatalf("epoch %d: the list became %v", epoch, whole)
		}
		checkStore(t, "the same list", again, epoch, keptIn(epoch))
		spoil(whole)
		to := min(epoch+3, 255)
		checkStore(t, "the list was changed", s, to, keptIn(to))
		checkStore(t, "the list was changed", again, epoch, keptIn(epoch))
	}
}

func TestBytesLeavesTheListAndIsNewMemory(t *testing.T) {
	for epoch := range 256 {
		whole := append(keptIn(epoch), run(5000, 5004)...)
		was := slices.Clone(whole)
		l := whole[:lots(epoch)]
		one, two := version.Bytes(epoch, l), version.Bytes(epoch, l)
		if !slices.Equal(whole, was) {
			t.Fatalf("epoch %d: the list became %v", epoch, whole)
		}
		clear(append(one, 1, 2, 3))
		clear(one)
		if want := bytesOf(epoch, keptIn(epoch)); !bytes.Equal(two, want) || !bytes.Equal(version.Bytes(epoch, l), want) {
			t.Fatalf("epoch %d: what Bytes returned was changed", epoch)
		}
	}
}

func TestReadGivesNewMemory(t *testing.T) {
	for _, epoch := range someEpochs {
		b := version.Bytes(epoch, keptIn(epoch))
		was := bytes.Clone(b)
		r := wire.NewReader(append(bytes.Clone(b), b...))
		_, one := version.Read(r)
		kept := slices.Clone(one)
		spoil(one)
		if e, two := version.Read(r); e != epoch || !slices.Equal(two, keptIn(epoch)) || !slices.Equal(kept, two) {
			t.Fatalf("%d, %v was read behind it", e, two)
		}
		_, l := version.Read(wire.NewReader(b))
		if !bytes.Equal(b, was) {
			t.Fatalf("%v became %v", was, b)
		}
		clear(b)
		if !slices.Equal(l, keptIn(epoch)) {
			t.Fatalf("the bytes were changed, and what was read of them became %v", l)
		}
	}
}

// R3: a call that fails changes nothing, and those that only ask do not either.
func TestAskingChangesNothing(t *testing.T) {
	for _, epoch := range someEpochs {
		s, plain := of(t, epoch, keptIn(epoch)), of(t, epoch, keptIn(epoch))
		for e := epoch + 1; e <= min(epoch+12, 255); e++ {
			s.Epoch()
			s.Now()
			s.Kept()
			for n := -3; n < e+3; n++ {
				s.At(n)
			}
			version.Of(e, s.Kept())
			version.Bytes(e, s.Kept())
			commit(t, s, numbered(e))
			commit(t, plain, numbered(e))
			checkStore(t, "asked", s, e, keptIn(e))
		}
		checkStore(t, "not asked", plain, min(epoch+12, 255), keptIn(min(epoch+12, 255)))
	}
}

// The capacity of what is kept ends with it: where a store's value is copied, and both commit, neither overwrites what the other one has.
func TestCopiesOfAStore(t *testing.T) {
	for from := range 20 {
		s := version.New(numbered(0))
		for e := 1; e <= from; e++ {
			commit(t, s, numbered(e))
		}
		twin := *s
		for n := 1; n <= 12; n++ {
			commit(t, s, numbered(from+n))
			commit(t, &twin, numbered(1000+from+n))
		}
		to := from + 12
		checkStore(t, "the store", s, to, keptIn(to))
		checkStore(t, "its copy", &twin, to, run(1000+to-7, 1000+to))
	}
}
