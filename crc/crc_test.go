package crc_test

import (
	"bytes"
	"hash/crc32"
	"math"
	"slices"
	"strings"
	"testing"

	"forepeak/api"
	"forepeak/crc"
)

// nines is the chapter's example, and ninesSum its checksum.
const (
	nines    = "123456789"
	ninesSum = 0xCBF43926
)

// mixed returns a source of numbers that look like any, the same ones in each run.
func mixed() func(below int) int {
	x := uint64(1)
	return func(below int) int {
		x = x*6364136223846793005 + 1442695040888963407
		return int(x>>33) % below
	}
}

// mixedBytes are any bytes.
func mixedBytes(next func(below int) int, n int) []byte {
	b := make([]byte, n)
	for i := range b {
		b[i] = byte(next(256))
	}
	return b
}

// register is a checksum by its definition, bit by bit: all bits are set at first, and inverted at last.
type register uint32

func newRegister() register { return math.MaxUint32 }

func (r *register) add(b []byte) {
	for _, c := range b {
		for bit := range 8 {
			out := *r%2 != register(c>>bit%2)
			*r /= 2
			if out {
				*r ^= 0xEDB88320
			}
		}
	}
}

func (r *register) sum() uint32 { return math.MaxUint32 - uint32(*r) }

// sumByBits is the checksum of bytes by its definition.
func sumByBits(b []byte) uint32 {
	r := newRegister()
	r.add(b)
	return r.sum()
}

// littleEnd are a number's four bytes, the least significant one first.
func littleEnd(n uint32) []byte {
	var b []byte
	for range 4 {
		b = append(b, byte(n%256))
		n /= 256
	}
	return b
}

// sealedByBits are bytes and their checksum, in new memory.
func sealedByBits(b []byte) []byte { return slices.Concat(b, littleEnd(sumByBits(b))) }

// checkSum holds the checksum of bytes, by each way to it, against another one.
func checkSum(t *testing.T, b []byte, want uint32) {
	t.Helper()
	if n := crc.Sum(b); n != want {
		t.Fatalf("Sum(%v) = %X, want %X", b, n, want)
	}
	if n := (crc.State{}).Add(b...).Sum(); n != want {
		t.Fatalf("State{}.Add(%v).Sum() = %X, want %X", b, n, want)
	}
}

// checkRejected tells that bytes cannot be opened, and that nothing is returned beside the error.
func checkRejected(t *testing.T, what any, b []byte, want api.Errno) {
	t.Helper()
	if got, e := crc.Open(b); len(got) != 0 || e != want {
		t.Fatalf("%v: Open(%v) = %v, %v, want none, %v", what, b, got, e, want)
	}
}

// checkOpened tells that bytes can be opened.
func checkOpened(t *testing.T, b, want []byte) {
	t.Helper()
	if got, e := crc.Open(b); !bytes.Equal(got, want) || e != api.OK {
		t.Fatalf("Open(%v) = %v, %v, want %v, OK", b, got, e, want)
	}
}

// P6.1: State, Sum.

func TestZeroStateIsAfterNoBytes(t *testing.T) {
	var s crc.State
	if n := s.Sum(); n != 0 {
		t.Fatalf("%X", n)
	}
	for _, again := range []crc.State{s.Add(), s.Add([]byte{}...), s.Add(nil...), s.Add().Add().Add()} {
		if again != s || again.Sum() != 0 {
			t.Fatalf("after no bytes: %X", again.Sum())
		}
	}
	if n := s.Add([]byte(nines)...).Add().Sum(); n != ninesSum {
		t.Fatalf("%X", n)
	}
}

func TestKnownSums(t *testing.T) {
	cases := []struct {
		s    string
		want uint32
	}{
		{"", 0},
		// The chapter's example.
		{nines, ninesSum},
		{"\x00", 0xD202EF8D},
		{"\xff", 0xFF000000},
		{"\x00\x00\x00\x00", 0x2144DF1C},
		{"\xff\xff\xff\xff", 0xFFFFFFFF},
		{"a", 0xE8B7BE43},
		{"abc", 0x352441C2},
		{"message digest", 0x20159D7F},
		{"The quick brown fox jumps over the lazy dog", 0x414FA339},
		{strings.Repeat("\x00", 32), 0x190A55AD},
		{strings.Repeat("\xff", 32), 0xFF6CAB0B},
	}
	for _, c := range cases {
		checkSum(t, []byte(c.s), c.want)
	}
}

func TestSumOfFewBytesBitByBit(t *testing.T) {
	for a := range 256 {
		one := []byte{byte(a)}
		checkSum(t, one, sumByBits(one))
		for b := range 256 {
			two := []byte{byte(a), byte(b)}
			checkSum(t, two, sumByBits(two))
		}
	}
}

func TestSumOfEachLengthBitByBit(t *testing.T) {
	next := mixed()
	for n := range 600 {
		b := mixedBytes(next, n)
		checkSum(t, b, sumByBits(b))
		checkSum(t, make([]byte, n), sumByBits(make([]byte, n)))
		ones := bytes.Repeat([]byte{255}, n)
		checkSum(t, ones, sumByBits(ones))
	}
}

func TestSumOfOneBit(t *testing.T) {
	for _, n := range []int{1, 2, 4, 7, 128} {
		for i := range 8 * n {
			b := make([]byte, n)
			b[i/8] = 1 << (i % 8)
			checkSum(t, b, sumByBits(b))
		}
	}
}

func TestSumOfManyBytes(t *testing.T) {
	const most = 1 << 24
	b := mixedBytes(mixed(), most)
	want := crc32.ChecksumIEEE(b)
	if n := crc.Sum(b); n != want {
		t.Fatalf("%X, want %X", n, want)
	}
	if n := crc.Sum(b[:most/3], b[most/3:most/2], b[most/2:]); n != want {
		t.Fatalf("%X, want %X", n, want)
	}
}

func TestAddIsStepByStep(t *testing.T) {
	next := mixed()
	for range 200 {
		var s crc.State
		r := newRegister()
		for range next(60) {
			b := mixedBytes(next, next(20))
			s = s.Add(b...)
			r.add(b)
			// Asking twice: that a state was asked does not end it.
			if a, b := s.Sum(), s.Sum(); a != r.sum() || b != r.sum() {
				t.Fatalf("%X, %X, want %X", a, b, r.sum())
			}
		}
	}
}

func TestAddLeavesItsStateAsItWas(t *testing.T) {
	s := crc.State{}.Add('1', '2', '3')
	was := s.Sum()
	rest := s.Add([]byte("456789")...)
	other := s.Add('x')
	if n := s.Sum(); n != was || n != sumByBits([]byte("123")) {
		t.Fatalf("%X, was %X", n, was)
	}
	if n := rest.Sum(); n != ninesSum {
		t.Fatalf("%X", n)
	}
	if n := other.Sum(); n != sumByBits([]byte("123x")) {
		t.Fatalf("%X", n)
	}
	if n := s.Add([]byte("456789")...).Sum(); n != ninesSum {
		t.Fatalf("%X", n)
	}
}

func TestSumOfParts(t *testing.T) {
	part := func(s string) []byte { return []byte(s) }
	cases := []struct {
		name  string
		parts [][]byte
		want  uint32
	}{
		{"no parts", nil, 0},
		{"no parts", [][]byte{}, 0},
		{"a nil part", [][]byte{nil}, 0},
		{"empty parts", [][]byte{{}, nil, {}}, 0},
		// The chapter's example.
		{"two parts", [][]byte{part("1234"), part("56789")}, ninesSum},
		{"one part", [][]byte{part(nines)}, ninesSum},
		{"an empty part first", [][]byte{{}, part(nines)}, ninesSum},
		{"an empty part last", [][]byte{part(nines), nil}, ninesSum},
		{"empty parts between", [][]byte{part("1"), nil, {}, part("2345678"), nil, part("9"), {}}, ninesSum},
		{"another order", [][]byte{part("56789"), part("1234")}, sumByBits(part("567891234"))},
		{"a part twice", [][]byte{part("ab"), part("ab")}, sumByBits(part("abab"))},
	}
	for _, c := range cases {
		if n := crc.Sum(c.parts...); n != c.want {
			t.Errorf("%s: %X, want %X", c.name, n, c.want)
		}
	}
	if n := crc.Sum(); n != 0 {
		t.Errorf("%X", n)
	}
}

func TestSumOfManyParts(t *testing.T) {
	parts := make([][]byte, 1<<20)
	if n := crc.Sum(parts...); n != 0 {
		t.Fatalf("%X", n)
	}
	var all []byte
	for i := range parts {
		if i%3 == 0 {
			parts[i] = []byte{byte(i), byte(i >> 8)}
			all = append(all, parts[i]...)
		}
	}
	if n, want := crc.Sum(parts...), crc32.ChecksumIEEE(all); n != want {
		t.Fatalf("%X, want %X", n, want)
	}
}

func TestSumsReadNothingBeyondTheLength(t *testing.T) {
	whole := []byte(nines + "and more")
	b := whole[:9]
	checkSum(t, b, ninesSum)
	if n := crc.Sum(whole[:4], whole[4:9], whole[9:9]); n != ninesSum {
		t.Fatalf("%X", n)
	}
	if string(whole) != nines+"and more" {
		t.Fatal("changed:", string(whole))
	}
}

func TestStateKeepsNoArgument(t *testing.T) {
	b := []byte("1234")
	s := crc.State{}.Add(b...)
	copy(b, "5678")
	if n := s.Add(b...).Add('9').Sum(); n != ninesSum || string(b) != "5678" {
		t.Fatalf("%X, %s", n, b)
	}
}

// P6.2: Seal, Open.

func TestSeal(t *testing.T) {
	cases := []struct{ b, want string }{
		{"", "\x00\x00\x00\x00"},
		{nines, nines + "\x26\x39\xf4\xcb"},
		{"a", "a\x43\xbe\xb7\xe8"},
		{"\x00", "\x00\x8d\xef\x02\xd2"},
		{"\x00\x00\x00\x00", "\x00\x00\x00\x00\x1c\xdf\x44\x21"},
	}
	for _, c := range cases {
		if got := crc.Seal([]byte(c.b)); string(got) != c.want {
			t.Errorf("Seal(%q) = %q, want %q", c.b, got, c.want)
		}
		checkOpened(t, []byte(c.want), []byte(c.b))
	}
	if got := crc.Seal(nil); string(got) != "\x00\x00\x00\x00" {
		t.Error("nil:", got)
	}
}

func TestSealBitByBit(t *testing.T) {
	next := mixed()
	for n := range 400 {
		b := mixedBytes(next, n)
		if got, want := crc.Seal(b), sealedByBits(b); !bytes.Equal(got, want) {
			t.Fatalf("Seal(%v) = %v, want %v", b, got, want)
		}
	}
}

func TestSealAnswersNewBytes(t *testing.T) {
	whole := []byte(nines + "and more")
	b := whole[:9]
	one := crc.Seal(b)
	two := crc.Seal(b)
	if string(whole) != nines+"and more" {
		t.Fatal("written beyond the length:", string(whole))
	}
	clear(one)
	one = append(one, "over"...)
	if string(whole) != nines+"and more" || string(two) != nines+"\x26\x39\xf4\xcb" {
		t.Fatalf("shared: %q, %q, %q", whole, one, two)
	}
	clear(whole)
	if string(two) != nines+"\x26\x39\xf4\xcb" {
		t.Fatalf("kept: %q", two)
	}
}

func TestOpenAnswersNewBytes(t *testing.T) {
	sealed := nines + "\x26\x39\xf4\xcb"
	b := []byte(sealed + "and more")[:len(sealed)]
	one, _ := crc.Open(b)
	two, _ := crc.Open(b)
	clear(one)
	one = append(one, "over and over"...)
	if string(b) != sealed || string(two) != nines {
		t.Fatalf("shared: %q, %q, %q", b, one, two)
	}
	// Neither the checksum nor what lies behind it is in the result's capacity.
	for _, c := range two[len(two):cap(two)] {
		if c != 0 {
			t.Fatalf("beyond the length: %q", two[:cap(two)])
		}
	}
	clear(b)
	if string(two) != nines {
		t.Fatalf("kept: %q", two)
	}
}

func TestOpenOfTooFewBytes(t *testing.T) {
	checkRejected(t, "nil", nil, api.ErrEnd)
	// Behind these there is room, with bytes that would be sealed.
	for _, s := range []string{"\x00\x00\x00\x00", "a\x43\xbe\xb7\xe8", "\xff\xff\xff\xff"} {
		for n := range 4 {
			checkRejected(t, n, []byte(s)[:n], api.ErrEnd)
			checkRejected(t, n, slices.Clip([]byte(s)[:n]), api.ErrEnd)
		}
	}
}

func TestOpenOfAnotherSum(t *testing.T) {
	next := mixed()
	for n := range 60 {
		b := mixedBytes(next, n)
		sum := sumByBits(b)
		others := []uint32{sum + 1, sum - 1, ^sum, sum ^ 1<<31, sum ^ 0xff, sum ^ 0xff00, sum ^ 0xff0000, sum ^ 0xff000000, sumByBits(append(slices.Clone(b), 0))}
		for range 20 {
			others = append(others, uint32(next(1<<31))*2+uint32(next(2)))
		}
		for _, other := range others {
			if other != sum {
				checkRejected(t, "another sum", slices.Concat(b, littleEnd(other)), api.ErrSum)
			}
		}
	}
}

func TestOpenOfTheSumInAnotherOrder(t *testing.T) {
	sum := littleEnd(ninesSum)
	for _, order := range [][4]int{{3, 2, 1, 0}, {1, 0, 3, 2}, {2, 3, 0, 1}, {1, 2, 3, 0}} {
		b := []byte(nines)
		for _, i := range order {
			b = append(b, sum[i])
		}
		checkRejected(t, order, b, api.ErrSum)
	}
}

func TestOpenOfAnyFourBytes(t *testing.T) {
	checkOpened(t, make([]byte, 4), nil)
	for i := range 4 {
		for c := 1; c < 256; c++ {
			b := make([]byte, 4)
			b[i] = byte(c)
			checkRejected(t, "no bytes and another sum", b, api.ErrSum)
		}
	}
}

func TestOpenOfBytesCutOrContinued(t *testing.T) {
	sealed := []byte(nines + "\x26\x39\xf4\xcb")
	checkOpened(t, sealed, []byte(nines))
	for n := range sealed {
		want := api.ErrSum
		if n < 4 {
			want = api.ErrEnd
		}
		checkRejected(t, n, sealed[:n], want)
	}
	for n := 1; n < len(sealed)-3; n++ {
		checkRejected(t, n, sealed[n:], api.ErrSum)
	}
	for c := range 256 {
		checkRejected(t, c, append(slices.Clone(sealed), byte(c)), api.ErrSum)
		checkRejected(t, c, append([]byte{byte(c)}, sealed...), api.ErrSum)
	}
}

func TestOpenChangesNoArgument(t *testing.T) {
	for _, s := range []string{"abc", nines + "\x26\x39\xf4\xcb", nines + "\x26\x39\xf4\xcc"} {
		b := []byte(s)
		crc.Open(b)
		crc.Open(b)
		if string(b) != s {
			t.Fatalf("%q became %q", s, b)
		}
	}
}

// P6.3: the checksum does not depend on how the bytes are split into parts.

func TestEachSplitInto3(t *testing.T) {
	b := mixedBytes(mixed(), 40)
	want := sumByBits(b)
	for i := range len(b) + 1 {
		for j := i; j <= len(b); j++ {
			if n := crc.Sum(b[:i], b[i:j], b[j:]); n != want {
				t.Fatalf("%d, %d: Sum = %X, want %X", i, j, n, want)
			}
			if n := (crc.State{}).Add(b[:i]...).Add(b[i:j]...).Add(b[j:]...).Sum(); n != want {
				t.Fatalf("%d, %d: Add = %X, want %X", i, j, n, want)
			}
		}
	}
}

func TestMixedSplits(t *testing.T) {
	next := mixed()
	for range 2000 {
		b := mixedBytes(next, next(300))
		want := sumByBits(b)
		var s crc.State
		var parts [][]byte
		for at := 0; at < len(b); {
			n := min(next(30), len(b)-at)
			parts = append(parts, b[at:at+n])
			s = s.Add(b[at : at+n]...)
			at += n
		}
		if n := crc.Sum(parts...); n != want {
			t.Fatalf("Sum of %v = %X, want %X", parts, n, want)
		}
		if n := s.Sum(); n != want {
			t.Fatalf("Add of %v = %X, want %X", parts, n, want)
		}
		// The same bytes, the same state.
		if s != (crc.State{}).Add(b...) {
			t.Fatal("two states of", b)
		}
	}
}

func TestByteByByte(t *testing.T) {
	b := mixedBytes(mixed(), 100000)
	var s crc.State
	for _, c := range b {
		s = s.Add(c)
	}
	if n, want := s.Sum(), sumByBits(b); n != want {
		t.Fatalf("%X, want %X", n, want)
	}
}

// P6.4: Open returns what was sealed, and rejects it with inverted bits.

func TestOpenReturnsWhatWasSealed(t *testing.T) {
	next := mixed()
	for n := range 500 {
		b := mixedBytes(next, n)
		checkOpened(t, crc.Seal(b), b)
		twice := crc.Seal(crc.Seal(b))
		checkOpened(t, twice, crc.Seal(b))
	}
	b := mixedBytes(next, 1<<20)
	checkOpened(t, crc.Seal(b), b)
}

// invert inverts bits from a position on: the first, the last, and those between that the pattern has. Positions are in the order of the checksum: in each byte from the least significant bit on.
func invert(b []byte, from, width int, pattern uint32) []byte {
	b = slices.Clone(b)
	for i := range width {
		if i == 0 || i == width-1 || pattern>>i&1 == 1 {
			b[(from+i)/8] ^= 1 << ((from + i) % 8)
		}
	}
	return b
}

// eachInverted calls f with bytes in which bits less than 32 positions apart were inverted: at all places, of all widths, by the patterns.
func eachInverted(b []byte, patterns []uint32, f func(from, width int, b []byte)) {
	for width := 1; width <= 32; width++ {
		for from := range 8*len(b) - width + 1 {
			for _, p := range patterns {
				f(from, width, invert(b, from, width, p))
			}
		}
	}
}

func TestInvertedBitsAreRejected(t *testing.T) {
	next := mixed()
	for _, n := range []int{0, 1, 2, 3, 4, 9, 28, 120} {
		sealed := crc.Seal(mixedBytes(next, n))
		patterns := []uint32{0, math.MaxUint32}
		for range 4 {
			patterns = append(patterns, uint32(next(1<<31))*2)
		}
		eachInverted(sealed, patterns, func(from, width int, b []byte) {
			checkRejected(t, []int{n, from, width}, b, api.ErrSum)
		})
	}
}

func TestAllPatternsOfFewBitsAreRejected(t *testing.T) {
	for _, s := range []string{"", "\x00", nines} {
		sealed := crc.Seal([]byte(s))
		for from := range 8*len(sealed) - 11 {
			for pattern := range uint32(1 << 10) {
				b := invert(sealed, from, 12, pattern<<1)
				checkRejected(t, []uint32{uint32(from), pattern}, b, api.ErrSum)
			}
		}
	}
}

func TestInvertedBitsFurtherApart(t *testing.T) {
	// The bits that a single one combines with, 33 in all with itself: by its definition the checksum cannot tell these. So the positions above are in the right order, and 32 is all there is.
	const bits = 1 | 0xEDB88320<<1
	for _, s := range []string{nines, "\x00", strings.Repeat("x", 112)} {
		sealed := crc.Seal([]byte(s))
		for from := range 8*len(sealed) - 32 {
			b := slices.Clone(sealed)
			for i := range 33 {
				if uint64(bits)>>i&1 == 1 {
					b[(from+i)/8] ^= 1 << ((from + i) % 8)
				}
			}
			checkOpened(t, b, b[:len(b)-4])
		}
	}
}
