package frame_test

import (
	"bytes"
	"hash/crc32"
	"math"
	"slices"
	"testing"

	"forepeak/api"
	"forepeak/disk"
	"forepeak/frame"
)

const (
	blockSize  = 128
	maxPayload = 112
	maxGen     = 1<<31 - 1
	maxSeq     = 65535
)

// Where things stand in a block.
const (
	genAt     = 1
	seqAt     = 5
	lengthAt  = 7
	payloadAt = 8
	sumAt     = 120
	zerosAt   = 124
	lastAt    = 127
)

// kinds are the chapter's kinds, and some others: any byte may be a kind.
var kinds = []byte{'R', 'C', 'V', 0, 1, 69, 127, 128, 255}

// gens are generations, those at the ends of their range and at those of one, two and three bytes among them.
var gens = []int{0, 1, 2, 127, 128, 255, 256, 257, 65535, 65536, 1<<24 - 1, 1 << 24, 0x12345678, maxGen - 1, maxGen}

// notGens are not.
var notGens = []int{-1, -2, -256, -maxGen - 1, -maxGen, maxGen + 1, maxGen + 2, 1<<32 - 1, 1 << 32, 1<<32 + 1, math.MaxInt, math.MinInt, math.MinInt + 1}

// seqs are numbers.
var seqs = []int{0, 1, 2, 127, 128, 255, 256, 257, 0x1234, 32767, 32768, maxSeq - 1, maxSeq}

// notSeqs are not.
var notSeqs = []int{-1, -2, -256, -65535, -65536, maxSeq + 1, maxSeq + 2, 2 * 65536, 1 << 31, 1 << 32, 1<<32 + 1, math.MaxInt, math.MinInt}

// notLengths are numbers of bytes that blocks do not have.
var notLengths = []int{0, 1, 7, 8, 120, 124, 127, 129, 130, 255, 256, 128 + 256, 65536, 65536 + 128}

// mixed returns a source of numbers that look like any, the same ones in each run.
func mixed() func(below int) int {
	x := uint64(1)
	return func(below int) int {
		x = x*6364136223846793005 + 1442695040888963407
		return int(x>>33) % below
	}
}

// mixedBytes are any bytes.
func mixedBytes(next func(below int) int, n int) []byte {
	b := make([]byte, n)
	for i := range b {
		b[i] = byte(next(256))
	}
	return b
}

// mixedFrame is what any frame may have.
func mixedFrame(next func(below int) int) (kind byte, gen, seq int, payload []byte) {
	return byte(next(256)), next(maxGen + 1), next(maxSeq + 1), mixedBytes(next, next(maxPayload+1))
}

// counted are so many bytes from 1 on, none of them 0.
func counted(n int) []byte {
	b := make([]byte, n)
	for i := range b {
		b[i] = byte(i%255 + 1)
	}
	return b
}

// filled is a block of one byte.
func filled(c byte) []byte { return bytes.Repeat([]byte{c}, blockSize) }

// digits are a number's bytes: its digits to the base 256, the first one the most significant.
func digits(n, size int) []byte {
	var b []byte
	for range size {
		b = append(b, byte(n%256))
		n /= 256
	}
	slices.Reverse(b)
	return b
}

// summed puts the checksum of the first 120 bytes of a block into it, as it is.
func summed(block []byte) []byte {
	sum := digits(int(crc32.ChecksumIEEE(block[:sumAt])), 4)
	slices.Reverse(sum)
	copy(block[sumAt:], sum)
	return block
}

// built is a block by the chapter's definition.
func built(kind byte, gen, seq int, payload []byte) []byte {
	padding := make([]byte, maxPayload-len(payload))
	ending := []byte{0, 0, 0, 0, 0, 0, 0, 69}
	return summed(slices.Concat([]byte{kind}, digits(gen, 4), digits(seq, 2), digits(len(payload), 1), payload, padding, ending))
}

// changed is another block with one byte replaced.
func changed(block []byte, at int, by byte) []byte {
	b := slices.Clone(block)
	b[at] = by
	return b
}

// mustWrite writes a frame.
func mustWrite(t *testing.T, kind byte, gen, seq int, b []byte) []byte {
	t.Helper()
	block, e := frame.Write(kind, gen, seq, b)
	if len(block) != blockSize || e != api.OK {
		t.Fatalf("Write(%d, %d, %d, %v) = %v, %v", kind, gen, seq, b, block, e)
	}
	return block
}

// checkWritten holds the frame of something against another block.
func checkWritten(t *testing.T, kind byte, gen, seq int, b, want []byte) {
	t.Helper()
	if block := mustWrite(t, kind, gen, seq, b); !bytes.Equal(block, want) {
		t.Fatalf("Write(%d, %d, %d, %v) = %v, want %v", kind, gen, seq, b, block, want)
	}
}

// checkNotWritten tells that there is no frame of something, and that nothing is returned beside the error.
func checkNotWritten(t *testing.T, kind byte, gen, seq int, b []byte, want api.Errno) {
	t.Helper()
	if block, e := frame.Write(kind, gen, seq, b); len(block) != 0 || e != want {
		t.Fatalf("Write(%d, %d, %d, %d bytes) = %v, %v, want none, %v", kind, gen, seq, len(b), block, e, want)
	}
}

// checkRead holds what a block has against something else.
func checkRead(t *testing.T, kind byte, block []byte, gen, seq int, payload []byte) {
	t.Helper()
	g, s, b, e := frame.Read(kind, block)
	if g != gen || s != seq || !bytes.Equal(b, payload) || e != api.OK {
		t.Fatalf("Read(%d, %v) = %d, %d, %v, %v, want %d, %d, %v, OK", kind, block, g, s, b, e, gen, seq, payload)
	}
}

// checkNotRead tells that a block cannot be read, and that nothing is returned beside the error.
func checkNotRead(t *testing.T, what any, kind byte, block []byte, want api.Errno) {
	t.Helper()
	g, s, b, e := frame.Read(kind, block)
	if g != 0 || s != 0 || len(b) != 0 || e != want {
		t.Fatalf("%v: Read(%d, %v) = %d, %d, %v, %v, want zeros, %v", what, kind, block, g, s, b, e, want)
	}
}

// P8.1: Write.

func TestKinds(t *testing.T) {
	if frame.Record != 82 || frame.Commit != 67 || frame.Head != 86 {
		t.Fatal(frame.Record, frame.Commit, frame.Head)
	}
}

func TestWriteOfTheExample(t *testing.T) {
	// The chapter's example, with the bytes that it leaves out.
	want := slices.Concat([]byte{67, 0, 0, 0, 1, 0, 2, 0}, make([]byte, 112), []byte{0xAE, 0x69, 0xB1, 0x5B, 0, 0, 0, 69})
	checkWritten(t, frame.Commit, 1, 2, nil, want)
	checkWritten(t, frame.Commit, 1, 2, []byte{}, want)
	checkRead(t, frame.Commit, want, 1, 2, nil)
}

func TestWriteOfKnownFrames(t *testing.T) {
	want := slices.Concat([]byte{82, 127, 255, 255, 255, 255, 255, 5}, []byte("hello"), make([]byte, 107), []byte{0x4C, 0xA8, 0xC5, 0x43, 0, 0, 0, 69})
	checkWritten(t, frame.Record, maxGen, maxSeq, []byte("hello"), want)
	checkRead(t, frame.Record, want, maxGen, maxSeq, []byte("hello"))
	want = slices.Concat([]byte{86, 0, 0, 0, 0, 0, 0, 112}, counted(112), []byte{0xC2, 0x1D, 0x3B, 0x25, 0, 0, 0, 69})
	checkWritten(t, frame.Head, 0, 0, counted(112), want)
	checkRead(t, frame.Head, want, 0, 0, counted(112))
}

func TestWriteOfEachKindGenerationAndNumber(t *testing.T) {
	for kind := range 256 {
		checkWritten(t, byte(kind), 3, 4, []byte("ab"), built(byte(kind), 3, 4, []byte("ab")))
	}
	for _, gen := range gens {
		for _, seq := range seqs {
			for _, b := range [][]byte{nil, []byte("ab"), counted(maxPayload)} {
				checkWritten(t, frame.Record, gen, seq, b, built(frame.Record, gen, seq, b))
			}
		}
	}
	for seq := range maxSeq + 1 {
		checkWritten(t, frame.Head, 7, seq, nil, built(frame.Head, 7, seq, nil))
	}
}

func TestWriteOfEachLength(t *testing.T) {
	next := mixed()
	for n := range maxPayload + 1 {
		for _, b := range [][]byte{make([]byte, n), counted(n), bytes.Repeat([]byte{255}, n), mixedBytes(next, n)} {
			checkWritten(t, frame.Record, 1, 2, b, built(frame.Record, 1, 2, b))
		}
	}
}

func TestWriteOfMixedFrames(t *testing.T) {
	next := mixed()
	for range 20000 {
		kind, gen, seq, b := mixedFrame(next)
		checkWritten(t, kind, gen, seq, b, built(kind, gen, seq, b))
	}
}

func TestWriteErrors(t *testing.T) {
	for _, kind := range kinds {
		for _, gen := range notGens {
			checkNotWritten(t, kind, gen, 0, nil, api.ErrRange)
			checkNotWritten(t, kind, gen, maxSeq, counted(maxPayload), api.ErrRange)
		}
		for _, seq := range notSeqs {
			checkNotWritten(t, kind, 0, seq, nil, api.ErrRange)
			checkNotWritten(t, kind, maxGen, seq, counted(maxPayload), api.ErrRange)
		}
		for _, n := range []int{113, 114, 119, 120, 127, 128, 255, 256, 257, 256 + 112, 65536, 65537, 1 << 24} {
			checkNotWritten(t, kind, 0, 0, make([]byte, n), api.ErrMany)
			checkNotWritten(t, kind, maxGen, maxSeq, make([]byte, n), api.ErrMany)
		}
	}
}

func TestWriteErrorsInTheirOrder(t *testing.T) {
	for _, n := range []int{113, 256, 65536} {
		b := make([]byte, n)
		for _, gen := range notGens {
			checkNotWritten(t, frame.Record, gen, 0, b, api.ErrRange)
			for _, seq := range notSeqs {
				checkNotWritten(t, frame.Record, gen, seq, b, api.ErrRange)
			}
		}
		for _, seq := range notSeqs {
			checkNotWritten(t, frame.Record, 0, seq, b, api.ErrRange)
		}
	}
}

func TestWriteLeavesItsArgument(t *testing.T) {
	for n := range maxPayload + 1 {
		// Behind the payload there is more memory of the caller's.
		around := counted(300)
		b := around[100 : 100+n]
		block := mustWrite(t, frame.Record, 1, 2, b)
		if !bytes.Equal(around, counted(300)) {
			t.Fatalf("%d bytes: they became %v", n, around)
		}
		want := built(frame.Record, 1, 2, slices.Clone(b))
		clear(around)
		if !bytes.Equal(block, want) {
			t.Fatalf("%d bytes: kept by the block: %v, want %v", n, block, want)
		}
	}
}

func TestWriteReturnsNewMemory(t *testing.T) {
	b := []byte("ab")
	one, two := mustWrite(t, frame.Record, 1, 2, b), mustWrite(t, frame.Record, 1, 2, b)
	for i := range one {
		one[i] = 7
	}
	_ = append(one, filled(9)...)
	if string(b) != "ab" {
		t.Fatalf("the payload became %q", b)
	}
	if want := built(frame.Record, 1, 2, b); !bytes.Equal(two, want) {
		t.Fatalf("another block became %v, want %v", two, want)
	}
	checkWritten(t, frame.Record, 1, 2, b, built(frame.Record, 1, 2, b))
}

// P8.2: Read.

func TestReadOfEachKindGenerationAndNumber(t *testing.T) {
	for kind := range 256 {
		checkRead(t, byte(kind), built(byte(kind), 3, 4, []byte("ab")), 3, 4, []byte("ab"))
	}
	for _, gen := range gens {
		for _, seq := range seqs {
			for _, b := range [][]byte{nil, []byte("ab"), counted(maxPayload)} {
				checkRead(t, frame.Record, built(frame.Record, gen, seq, b), gen, seq, b)
			}
		}
	}
	for seq := range maxSeq + 1 {
		checkRead(t, frame.Head, built(frame.Head, 7, seq, nil), 7, seq, nil)
	}
}

func TestReadOfEachLength(t *testing.T) {
	next := mixed()
	for n := range maxPayload + 1 {
		// Zeros at the end of a payload belong to it, and not to the padding.
		for _, b := range [][]byte{make([]byte, n), counted(n), bytes.Repeat([]byte{255}, n), mixedBytes(next, n)} {
			checkRead(t, frame.Record, built(frame.Record, 1, 2, b), 1, 2, b)
		}
	}
}

func TestReadOfAnotherLengthThanABlock(t *testing.T) {
	for _, kind := range kinds {
		checkNotRead(t, "nil", kind, nil, api.ErrArg)
		for _, n := range notLengths {
			checkNotRead(t, n, kind, make([]byte, n), api.ErrArg)
			checkNotRead(t, n, kind, bytes.Repeat([]byte{kind}, n), api.ErrArg)
		}
		for _, b := range [][]byte{nil, []byte("ab"), counted(maxPayload)} {
			block := built(kind, 1, 2, b)
			checkNotRead(t, "less", kind, block[:lastAt], api.ErrArg)
			checkNotRead(t, "less at first", kind, block[1:], api.ErrArg)
			checkNotRead(t, "more", kind, slices.Concat(block, []byte{0}), api.ErrArg)
			checkNotRead(t, "twice", kind, slices.Concat(block, block), api.ErrArg)
		}
	}
}

func TestReadOfAnotherKind(t *testing.T) {
	for _, b := range [][]byte{nil, []byte("ab"), counted(maxPayload)} {
		for has := range 256 {
			block := built(byte(has), 1, 2, b)
			for asked := range 256 {
				if asked != has {
					checkNotRead(t, has, byte(asked), block, api.ErrForm)
				}
			}
		}
	}
}

// Whatever one byte of a frame is replaced by, either the form tells it, or the checksum.
func TestReadOfEachByteReplaced(t *testing.T) {
	for _, b := range [][]byte{nil, []byte("ab"), counted(maxPayload)} {
		block := built(frame.Record, 0x12345678, 0x1234, b)
		for at := range block {
			want := api.ErrSum
			if at == 0 || at >= zerosAt {
				want = api.ErrForm
			}
			for by := range 256 {
				if byte(by) != block[at] {
					checkNotRead(t, at, frame.Record, changed(block, at, byte(by)), want)
				}
			}
		}
	}
}

func TestReadOfAnotherEnding(t *testing.T) {
	block := built(frame.Commit, 1, 2, nil)
	for _, ending := range []string{"\x01\x00\x00\x45", "\x00\x01\x00\x45", "\x00\x00\x01\x45", "\x01\x01\x01\x45", "\xff\xff\xff\x45", "\x45\x00\x00\x00", "\x00\x00\x00\x00", "\x00\x00\x00\xff", "\x00\x00\x00\x44", "\x00\x00\x00\x46", "\x45\x45\x45\x45", "\xff\xff\xff\xff"} {
		copy(block[zerosAt:], ending)
		checkNotRead(t, []byte(ending), frame.Commit, block, api.ErrForm)
	}
	copy(block[zerosAt:], "\x00\x00\x00\x45")
	checkRead(t, frame.Commit, block, 1, 2, nil)
}

func TestReadOfAnotherSum(t *testing.T) {
	for _, b := range [][]byte{nil, []byte("ab"), counted(maxPayload)} {
		block := built(frame.Head, 1, 2, b)
		for bit := 8; bit < 8*zerosAt; bit++ {
			checkNotRead(t, bit, frame.Head, changed(block, bit/8, block[bit/8]^1<<(bit%8)), api.ErrSum)
		}
		sum := block[sumAt:zerosAt]
		slices.Reverse(sum)
		checkNotRead(t, "reversed", frame.Head, block, api.ErrSum)
		clear(sum)
		checkNotRead(t, "zeros", frame.Head, block, api.ErrSum)
		// The checksum of less, or of more, than the 120 bytes before it.
		for _, n := range []int{0, 8, 8 + len(b), 119, 121, 124} {
			if n != sumAt {
				other := slices.Clone(built(frame.Head, 1, 2, b))
				wrong := digits(int(crc32.ChecksumIEEE(other[:n])), 4)
				slices.Reverse(wrong)
				copy(other[sumAt:], wrong)
				checkNotRead(t, n, frame.Head, other, api.ErrSum)
			}
		}
	}
}

func TestReadOfAGenerationOutOfRange(t *testing.T) {
	for _, b := range [][]byte{nil, []byte("ab"), counted(maxPayload)} {
		for _, gen := range gens {
			block := built(frame.Record, gen, 2, b)
			checkRead(t, frame.Record, block, gen, 2, b)
			block[genAt] += 128
			checkNotRead(t, gen, frame.Record, summed(block), api.ErrForm)
		}
		for first := 128; first < 256; first++ {
			block := changed(built(frame.Record, 0, 2, b), genAt, byte(first))
			checkNotRead(t, first, frame.Record, summed(block), api.ErrForm)
		}
	}
}

func TestReadOfALengthOutOfRange(t *testing.T) {
	for length := maxPayload + 1; length < 256; length++ {
		for _, b := range [][]byte{nil, []byte("ab"), counted(maxPayload)} {
			block := changed(built(frame.Record, 1, 2, b), lengthAt, byte(length))
			checkNotRead(t, length, frame.Record, summed(block), api.ErrForm)
		}
	}
}

func TestReadOfAPaddingByteOutOfRange(t *testing.T) {
	for length := range maxPayload {
		block := built(frame.Record, 1, 2, counted(length))
		for at := payloadAt + length; at < sumAt; at++ {
			for _, by := range []byte{1, 128, 255} {
				checkNotRead(t, []int{length, at}, frame.Record, summed(changed(block, at, by)), api.ErrForm)
			}
		}
	}
	for by := 1; by < 256; by++ {
		for _, at := range []int{payloadAt, sumAt - 1} {
			block := changed(built(frame.Record, 1, 2, nil), at, byte(by))
			checkNotRead(t, []int{at, by}, frame.Record, summed(block), api.ErrForm)
		}
	}
}

// A length that is less than what was written makes padding of the rest, and one that is more makes payload of padding.
func TestReadGoesByTheLength(t *testing.T) {
	block := built(frame.Record, 1, 2, counted(50))
	for length := range maxPayload + 1 {
		other := summed(changed(block, lengthAt, byte(length)))
		if length < 50 {
			checkNotRead(t, length, frame.Record, other, api.ErrForm)
			continue
		}
		checkRead(t, frame.Record, other, 1, 2, slices.Concat(counted(50), make([]byte, length-50)))
	}
}

func TestReadErrorsInTheirOrder(t *testing.T) {
	whole := built(frame.Record, 1, 2, []byte("ab"))
	// What follows the checksum is a matter of form, as is what the checksum would let through.
	outer := map[int]byte{0: 'C', zerosAt: 1, zerosAt + 1: 1, zerosAt + 2: 1, lastAt: 68}
	inner := map[int]byte{genAt: 128, lengthAt: 113, payloadAt + 2: 1, sumAt - 1: 1}
	for at, by := range outer {
		// The form is told before the checksum, and with a checksum that matches.
		for _, under := range []int{genAt, seqAt, lengthAt, payloadAt, sumAt, zerosAt - 1} {
			checkNotRead(t, []int{at, under}, frame.Record, changed(changed(whole, under, 200), at, by), api.ErrForm)
		}
		checkNotRead(t, at, frame.Record, summed(changed(whole, at, by)), api.ErrForm)
		checkNotRead(t, at, frame.Record, changed(whole, at, by)[:lastAt], api.ErrArg)
		checkNotRead(t, at, frame.Record, append(changed(whole, at, by), 69), api.ErrArg)
	}
	for at, by := range inner {
		// The checksum is told before what is out of range.
		checkNotRead(t, at, frame.Record, changed(whole, at, by), api.ErrSum)
		checkNotRead(t, at, frame.Record, summed(changed(whole, at, by)), api.ErrForm)
		checkNotRead(t, at, frame.Record, append(summed(changed(whole, at, by)), 69), api.ErrArg)
		for next, nextBy := range inner {
			checkNotRead(t, []int{at, next}, frame.Record, summed(changed(changed(whole, at, by), next, nextBy)), api.ErrForm)
		}
	}
	for _, c := range []byte{0, 69, 'R', 255} {
		checkNotRead(t, c, frame.Record, filled(c), api.ErrForm)
		checkNotRead(t, c, c, filled(c), api.ErrForm)
	}
}

func TestReadLeavesItsArgument(t *testing.T) {
	for n := range maxPayload + 1 {
		// Behind the block there is more memory of the caller's.
		around := slices.Concat(counted(100), built(frame.Record, 1, 2, counted(n)), counted(100))
		before := slices.Clone(around)
		block := around[100 : 100+blockSize]
		checkRead(t, frame.Record, block, 1, 2, counted(n))
		checkNotRead(t, n, frame.Commit, block, api.ErrForm)
		checkNotRead(t, n, frame.Record, block[:lastAt], api.ErrArg)
		if !bytes.Equal(around, before) {
			t.Fatalf("%d bytes: the block became %v, want %v", n, around, before)
		}
	}
}

func TestReadReturnsNewMemory(t *testing.T) {
	for n := range maxPayload + 1 {
		block := built(frame.Record, 1, 2, counted(n))
		_, _, one, _ := frame.Read(frame.Record, block)
		_, _, two, _ := frame.Read(frame.Record, block)
		for i := range one {
			one[i] = 0
		}
		_ = append(one, filled(9)...)
		if !bytes.Equal(block, built(frame.Record, 1, 2, counted(n))) || !bytes.Equal(two, counted(n)) {
			t.Fatalf("%d bytes: the block became %v, another payload %v", n, block, two)
		}
		clear(block)
		if !bytes.Equal(two, counted(n)) {
			t.Fatalf("%d bytes: kept by the payload: %v", n, two)
		}
	}
}

// A payload is a part of more memory: what is behind it is not handed out, and an append to it goes elsewhere.
func TestPayloadEndsWithItsLength(t *testing.T) {
	for n := range maxPayload + 1 {
		_, _, b, e := frame.Read(frame.Record, built(frame.Record, 1, 2, counted(n)))
		if e != api.OK || cap(b) != n {
			t.Fatalf("%d bytes: capacity %d, %v", n, cap(b), e)
		}
	}
}

// P8.3: what is read was written.

func TestReadReturnsWhatWasWritten(t *testing.T) {
	next := mixed()
	for range 20000 {
		kind, gen, seq, b := mixedFrame(next)
		checkRead(t, kind, mustWrite(t, kind, gen, seq, b), gen, seq, b)
	}
	for _, kind := range kinds {
		for _, gen := range gens {
			for _, seq := range seqs {
				checkRead(t, kind, mustWrite(t, kind, gen, seq, nil), gen, seq, nil)
				checkRead(t, kind, mustWrite(t, kind, gen, seq, counted(maxPayload)), gen, seq, counted(maxPayload))
			}
		}
	}
}

// checkSame tells that a block that can be read is written again as it was.
func checkSame(t *testing.T, kind byte, block []byte) bool {
	t.Helper()
	gen, seq, b, e := frame.Read(kind, block)
	if e != api.OK {
		return false
	}
	checkWritten(t, kind, gen, seq, b, block)
	return true
}

// Blocks that differ by a byte or two from frames, with a checksum that matches: those that can be read are frames.
func TestWriteReturnsWhatWasRead(t *testing.T) {
	next := mixed()
	var same, other int
	for range 20000 {
		kind, gen, seq, b := mixedFrame(next)
		block := built(kind, gen, seq, b)
		if !checkSame(t, kind, block) {
			t.Fatalf("not read: %v", block)
		}
		block[next(blockSize)] = byte(next(256))
		block[next(payloadAt+1)] = byte(next(256))
		if checkSame(t, block[0], summed(block)) {
			same++
		} else {
			other++
		}
	}
	if same == 0 || other == 0 {
		t.Fatalf("%d were read, %d were not", same, other)
	}
}

// P8.4: a torn block is not a frame.

func TestBlockThatEndsWith255IsNotAFrame(t *testing.T) {
	next := mixed()
	for range 2000 {
		kind, gen, seq, b := mixedFrame(next)
		checkNotRead(t, "last byte 255", kind, changed(built(kind, gen, seq, b), lastAt, 255), api.ErrForm)
		checkNotRead(t, "any bytes", kind, changed(mixedBytes(next, blockSize), lastAt, 255), api.ErrForm)
	}
	for kind := range 256 {
		checkNotRead(t, "all 255", byte(kind), filled(255), api.ErrForm)
	}
}

// torn is what a disk has, after it had one block and a write of another one to it was torn.
func torn(t *testing.T, old, block []byte, keep int) []byte {
	t.Helper()
	d, e := disk.New(1)
	if e != api.OK {
		t.Fatal(e)
	}
	if e := d.Write(0, old); e != api.OK {
		t.Fatal(e)
	}
	if e := d.Arm(0, keep); e != api.OK {
		t.Fatal(e)
	}
	if e := d.Write(0, block); e != api.ErrDown {
		t.Fatal(e)
	}
	d.Power()
	b, e := d.Read(0)
	if e != api.OK {
		t.Fatal(e)
	}
	return b
}

func TestTornBlockIsNotAFrame(t *testing.T) {
	for _, kind := range kinds {
		for _, b := range [][]byte{nil, []byte("ab"), bytes.Repeat([]byte{255}, maxPayload)} {
			block := mustWrite(t, kind, 1, 2, b)
			// Not even where the block had a frame before, or this very one.
			for _, old := range [][]byte{filled(0), filled(255), mustWrite(t, kind, 0, 1, []byte("old")), block} {
				for keep := range blockSize {
					checkNotRead(t, keep, kind, torn(t, old, block, keep), api.ErrForm)
				}
				checkRead(t, kind, torn(t, old, block, blockSize), 1, 2, b)
			}
		}
	}
}
