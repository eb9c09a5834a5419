package vault_test

import (
	"bytes"
	"encoding/binary"
	"hash/crc32"
	"math"
	"slices"
	"testing"

	"forepeak/api"
	"forepeak/disk"
	"forepeak/frame"
	"forepeak/vault"
)

const (
	blockSize = 128
	maxBlocks = 1024
	areaSize  = 256
	vaultSize = 512
	maxBytes  = 255 * blockSize
	maxGen    = 1<<31 - 1
)

// gens are generations, those at the ends of their range among them.
var gens = []int{0, 1, 2, 3, 255, 256, 65535, 65536, 1 << 24, 0x12345678, maxGen - 2, maxGen - 1, maxGen}

// notGens are not.
var notGens = []int{-1, -2, -3, -256, -maxGen - 1, -maxGen, maxGen + 1, maxGen + 2, 1<<32 - 1, 1 << 32, 1<<32 + 1, math.MaxInt, math.MaxInt - 1, math.MinInt, math.MinInt + 1}

// lengths are numbers of bytes: none, and those about whole numbers of blocks, of as many blocks as there may be.
var lengths = []int{0, 1, 2, 127, 128, 129, 255, 256, 257, 384, 385, 127*128 - 1, 127 * 128, 127*128 + 1, 128 * 128, 128*128 + 1, 129*128 - 1, 129 * 128, 254*128 + 1, 255*128 - 1, maxBytes}

// notLengths are numbers of bytes that need more blocks than an area has for them.
var notLengths = []int{maxBytes + 1, maxBytes + 2, 256 * 128, 256*128 + 1, 257 * 128, 511 * 128, 65535 * 128, 65536 * 128, 65536*128 + 1, 65537*128 + 5, 1 << 24}

// mixed returns a source of numbers that look like any, the same ones in each run.
func mixed() func(below int) int {
	x := uint64(1)
	return func(below int) int {
		x = x*6364136223846793005 + 1442695040888963407
		return int(x>>33) % below
	}
}

// mixedBytes are any bytes.
func mixedBytes(next func(below int) int, n int) []byte {
	b := make([]byte, n)
	for i := range b {
		b[i] = byte(next(256))
	}
	return b
}

// counted are so many bytes from 1 on, none of them 0.
func counted(n int) []byte {
	b := make([]byte, n)
	for i := range b {
		b[i] = byte(i%251 + 1)
	}
	return b
}

// filledBytes are so many bytes that are the same.
func filledBytes(c byte, n int) []byte { return bytes.Repeat([]byte{c}, n) }

// filled is a block of one byte.
func filled(c byte) []byte { return filledBytes(c, blockSize) }

// needed is how many blocks so many bytes need, found by trying.
func needed(n int) int {
	blocks := 0
	for blocks*blockSize < n {
		blocks++
	}
	return blocks
}

// headOf is a head by the chapters, of any numbers and any payload.
func headOf(kind byte, gen uint32, blocks uint16, payload []byte) []byte {
	b := []byte{kind}
	b = binary.BigEndian.AppendUint32(b, gen)
	b = binary.BigEndian.AppendUint16(b, blocks)
	b = append(b, byte(len(payload)))
	b = append(b, payload...)
	b = append(b, make([]byte, 120-len(b))...)
	b = binary.LittleEndian.AppendUint32(b, crc32.ChecksumIEEE(b))
	return append(b, 0, 0, 0, 69)
}

// payloadOf is what is in a head: a number of bytes, and a checksum.
func payloadOf(n, sum uint32) []byte {
	return binary.BigEndian.AppendUint32(binary.BigEndian.AppendUint32(nil, n), sum)
}

// areaOf are the first blocks of an area that holds bytes: the head, and then the contents.
func areaOf(gen int, b []byte) [][]byte {
	payload := payloadOf(uint32(len(b)), crc32.ChecksumIEEE(b))
	blocks := [][]byte{headOf('V', uint32(gen), uint16(needed(len(b))), payload)}
	for i := 0; i < len(b); i += blockSize {
		block := make([]byte, blockSize)
		copy(block, b[i:])
		blocks = append(blocks, block)
	}
	return blocks
}

// tornBytes is what a block has after a torn write of bytes.
func tornBytes(b []byte, keep int) []byte {
	return append(slices.Clone(b[:keep]), filledBytes(255, blockSize-keep)...)
}

// newDisk is a disk of so many blocks.
func newDisk(t *testing.T, blocks int) *disk.Disk {
	t.Helper()
	d, e := disk.New(blocks)
	if d == nil || e != api.OK {
		t.Fatalf("disk.New(%d) = %v, %v", blocks, d, e)
	}
	return d
}

// newVault is a vault on a disk.
func newVault(t *testing.T, d *disk.Disk, from int) *vault.Vault {
	t.Helper()
	v, e := vault.New(d, from)
	if v == nil || e != api.OK {
		t.Fatalf("New(disk of %d, %d) = %v, %v", d.Len(), from, v, e)
	}
	return v
}

// put writes blocks to a disk, from one on.
func put(t *testing.T, d *disk.Disk, from int, blocks ...[]byte) {
	t.Helper()
	for i, b := range blocks {
		if e := d.Write(from+i, b); e != api.OK {
			t.Fatalf("disk.Write(%d) = %v", from+i, e)
		}
	}
}

// blocksOf is what all blocks of a disk have. A disk that is off is read by way of a copy that is on.
func blocksOf(t *testing.T, d *disk.Disk) [][]byte {
	t.Helper()
	d = d.Copy()
	d.Power()
	var all [][]byte
	for i := range d.Len() {
		b, e := d.Read(i)
		if e != api.OK {
			t.Fatalf("disk.Read(%d) = %v", i, e)
		}
		all = append(all, b)
	}
	return all
}

// checkBlocks holds all blocks of a disk against others.
func checkBlocks(t *testing.T, what any, d *disk.Disk, want [][]byte) {
	t.Helper()
	for i, b := range blocksOf(t, d) {
		if !bytes.Equal(b, want[i]) {
			t.Fatalf("%v: block %d became %v, want %v", what, i, b, want[i])
		}
	}
}

// checkWrites holds the number of a disk's writes against another one.
func checkWrites(t *testing.T, what any, d *disk.Disk, want int) {
	t.Helper()
	if n := d.Writes(); n != want {
		t.Fatalf("%v: %d writes, want %d", what, n, want)
	}
}

// checkSave saves bytes, and holds the error against the one that is to be.
func checkSave(t *testing.T, what any, v *vault.Vault, gen int, b []byte, want api.Errno) {
	t.Helper()
	if e := v.Save(gen, b); e != want {
		t.Fatalf("%v: Save(%d, %d bytes) = %v, want %v", what, gen, len(b), e, want)
	}
}

// checkLoad loads bytes, and holds them against others. The memory behind them is not handed out.
func checkLoad(t *testing.T, what any, v *vault.Vault, gen int, want []byte) {
	t.Helper()
	n, b, e := v.Load()
	if n != gen || !bytes.Equal(b, want) || e != api.OK {
		t.Fatalf("%v: Load() = %d, %v, %v, want %d, %v, OK", what, n, b, e, gen, want)
	}
	if cap(b) != len(b) {
		t.Fatalf("%v: Load() = %d bytes with a capacity of %d", what, len(b), cap(b))
	}
}

// checkNotLoad tells that nothing can be loaded, and that nothing is returned beside the error.
func checkNotLoad(t *testing.T, what any, v *vault.Vault, want api.Errno) {
	t.Helper()
	if n, b, e := v.Load(); n != 0 || len(b) != 0 || e != want {
		t.Fatalf("%v: Load() = %d, %v, %v, want 0, none, %v", what, n, b, e, want)
	}
}

// arm sets a disk's fuse.
func arm(t *testing.T, d *disk.Disk, n, keep int) {
	t.Helper()
	if e := d.Arm(n, keep); e != api.OK {
		t.Fatalf("disk.Arm(%d, %d) = %v", n, keep, e)
	}
}

// turnOff turns a disk off, by a write to a block that is torn behind its last byte, so that the block stays as it is.
func turnOff(t *testing.T, d *disk.Disk) {
	t.Helper()
	b := blocksOf(t, d)[0]
	arm(t, d, 0, blockSize)
	if e := d.Write(0, b); e != api.ErrDown || d.On() {
		t.Fatalf("disk.Write = %v, on = %v", e, d.On())
	}
}

// P10.1: New.

func TestNewOfEachPlace(t *testing.T) {
	for _, blocks := range []int{1, 2, 255, 256, 257, 510, 511, 512, 513, 514, 640, 768, 1023, maxBlocks} {
		d := newDisk(t, blocks)
		for from := -600; from <= maxBlocks+600; from++ {
			fits := from >= 0 && from+vaultSize <= blocks
			v, e := vault.New(d, from)
			if fits && (v == nil || e != api.OK) {
				t.Fatalf("New(disk of %d, %d) = %v, %v, want OK", blocks, from, v, e)
			}
			if !fits && (v != nil || e != api.ErrRange) {
				t.Fatalf("New(disk of %d, %d) = %v, %v, want none, ErrRange", blocks, from, v, e)
			}
		}
		checkWrites(t, blocks, d, 0)
	}
}

func TestNewOfGreatNumbers(t *testing.T) {
	for _, blocks := range []int{1, 511, 512, maxBlocks} {
		d := newDisk(t, blocks)
		for _, from := range []int{math.MaxInt, math.MaxInt - 1, math.MaxInt - 511, math.MaxInt - 512, math.MaxInt - 1024, math.MaxInt32, 1 << 32, 1<<32 + 1, 65536, -1, -511, -512, -1024, -65536, -1 << 32, math.MinInt, math.MinInt + 1, math.MinInt + 512, math.MinInt + 1024} {
			if v, e := vault.New(d, from); v != nil || e != api.ErrRange {
				t.Fatalf("New(disk of %d, %d) = %v, %v, want none, ErrRange", blocks, from, v, e)
			}
		}
	}
}

func TestNewErrorsInTheirOrder(t *testing.T) {
	for _, from := range []int{0, 1, 512, -1, 1024, math.MaxInt, math.MinInt} {
		if v, e := vault.New(nil, from); v != nil || e != api.ErrNil {
			t.Fatalf("New(nil, %d) = %v, %v, want none, ErrNil", from, v, e)
		}
	}
}

// A disk that New of its package did not return is not nil, but has no blocks.
func TestNewOnADiskOfNoBlocks(t *testing.T) {
	for _, from := range []int{0, 1, -512} {
		if v, e := vault.New(new(disk.Disk), from); v != nil || e != api.ErrRange {
			t.Fatalf("New(disk of 0, %d) = %v, %v, want none, ErrRange", from, v, e)
		}
	}
}

func TestNewLeavesTheDisk(t *testing.T) {
	d := newDisk(t, 600)
	for i := range d.Len() {
		put(t, d, i, filled(byte(i)))
	}
	before := blocksOf(t, d)
	arm(t, d, 0, 5)
	newVault(t, d, 0)
	newVault(t, d, 88)
	checkBlocks(t, "new", d, before)
	checkWrites(t, "new", d, 600)
	// The fuse is still there.
	if e := d.Write(1, filled(0)); e != api.ErrDown {
		t.Fatalf("disk.Write = %v, want ErrDown", e)
	}
}

// A new vault finds what an earlier one has left, also where the disk was off when it was made.
func TestNewOnADiskThatHoldsSomething(t *testing.T) {
	d := newDisk(t, 700)
	old := newVault(t, d, 100)
	checkSave(t, "old", old, 4, []byte("four"), api.OK)
	checkLoad(t, "another", newVault(t, d, 100), 4, []byte("four"))
	checkSave(t, "old", old, 5, []byte("five"), api.OK)
	checkLoad(t, "another", newVault(t, d, 100), 5, []byte("five"))
	checkNotLoad(t, "elsewhere", newVault(t, d, 101), api.ErrNone)
	turnOff(t, d)
	v := newVault(t, d, 100)
	checkNotLoad(t, "off", v, api.ErrDown)
	d.Power()
	checkLoad(t, "on", v, 5, []byte("five"))
	checkSave(t, "on", v, 6, nil, api.OK)
	checkLoad(t, "the old one", old, 6, nil)
}

// P10.1: Blocks.

func TestBlocksOfNoBytes(t *testing.T) {
	for n := -1000; n <= 0; n++ {
		if blocks := vault.Blocks(n); blocks != 0 {
			t.Fatalf("Blocks(%d) = %d, want 0", n, blocks)
		}
	}
	for _, n := range []int{math.MinInt, math.MinInt + 1, math.MinInt + 127, math.MinInt + 128, math.MinInt32, -1 << 32, -1<<32 + 1} {
		if blocks := vault.Blocks(n); blocks != 0 {
			t.Fatalf("Blocks(%d) = %d, want 0", n, blocks)
		}
	}
}

func TestBlocksOfEachNumber(t *testing.T) {
	for blocks := 1; blocks <= 1200; blocks++ {
		for n := (blocks-1)*blockSize + 1; n <= blocks*blockSize; n++ {
			if got := vault.Blocks(n); got != blocks {
				t.Fatalf("Blocks(%d) = %d, want %d", n, got, blocks)
			}
		}
	}
}

func TestBlocksOfGreatNumbers(t *testing.T) {
	for _, blocks := range []int{65535, 65536, 65537, 1 << 17, 1 << 24, 1<<24 + 1, 1 << 25, 1 << 32, 1 << 55, 1<<56 - 1} {
		for n, want := range map[int]int{
			blocks*blockSize - 127: blocks,
			blocks*blockSize - 1:   blocks,
			blocks * blockSize:     blocks,
			blocks*blockSize + 1:   blocks + 1,
		} {
			if got := vault.Blocks(n); got != want {
				t.Fatalf("Blocks(%d) = %d, want %d", n, got, want)
			}
		}
	}
	for n := range 127 {
		if got := vault.Blocks(math.MaxInt - n); got != 1<<56 {
			t.Fatalf("Blocks(%d) = %d, want %d", math.MaxInt-n, got, 1<<56)
		}
	}
}

// P10.1: Save.

// The area of the generation gets the head and the contents, with the padding, and no other block is written.
func TestSaveOfEachLength(t *testing.T) {
	const from, blocks = 3, 3 + vaultSize + 2
	for _, n := range lengths {
		for _, gen := range []int{0, 1} {
			what := []int{n, gen}
			d := newDisk(t, blocks)
			for i := range blocks {
				put(t, d, i, filled(9))
			}
			want := blocksOf(t, d)
			v := newVault(t, d, from)
			checkSave(t, what, v, gen, counted(n), api.OK)
			copy(want[from+gen*areaSize:], areaOf(gen, counted(n)))
			checkBlocks(t, what, d, want)
			checkWrites(t, what, d, blocks+needed(n)+1)
			checkLoad(t, what, v, gen, counted(n))
		}
	}
}

// The same for every length of up to four blocks, of several kinds of bytes.
func TestSaveOfEachShortLength(t *testing.T) {
	next := mixed()
	d := newDisk(t, vaultSize)
	v := newVault(t, d, 0)
	want := blocksOf(t, d)
	gen := 0
	for n := range 4*blockSize + 1 {
		for _, b := range [][]byte{make([]byte, n), counted(n), filledBytes(255, n), mixedBytes(next, n)} {
			checkSave(t, n, v, gen, b, api.OK)
			copy(want[gen%2*areaSize:], areaOf(gen, b))
			checkBlocks(t, n, d, want)
			checkLoad(t, n, v, gen, b)
			gen++
		}
	}
}

// Even generations are in the first area, odd ones in the second one.
func TestSaveOfEachGeneration(t *testing.T) {
	for _, from := range []int{0, 1, 512} {
		for _, gen := range gens {
			what := []int{from, gen}
			d := newDisk(t, maxBlocks)
			v := newVault(t, d, from)
			b := counted(300)
			checkSave(t, what, v, gen, b, api.OK)
			want := blocksOf(t, newDisk(t, maxBlocks))
			at := from
			if gen%2 == 1 {
				at += areaSize
			}
			copy(want[at:], areaOf(gen, b))
			checkBlocks(t, what, d, want)
			checkLoad(t, what, v, gen, b)
			checkLoad(t, what, newVault(t, d, from), gen, b)
		}
	}
}

// A vault may be anywhere on the disk, and end with the disk's last block.
func TestSaveAtEachPlace(t *testing.T) {
	b := counted(maxBytes)
	for _, blocks := range []int{512, 513, 700, maxBlocks} {
		for from := 0; from+vaultSize <= blocks; from += 1 + from%37 {
			d := newDisk(t, blocks)
			v := newVault(t, d, from)
			checkSave(t, from, v, 2, b, api.OK)
			checkSave(t, from, v, 3, b[1:], api.OK)
			checkLoad(t, from, newVault(t, d, from), 3, b[1:])
			want := blocksOf(t, newDisk(t, blocks))
			copy(want[from:], areaOf(2, b))
			copy(want[from+areaSize:], areaOf(3, b[1:]))
			checkBlocks(t, from, d, want)
		}
		// At the end, every byte of the last block.
		d := newDisk(t, blocks)
		v := newVault(t, d, blocks-vaultSize)
		checkSave(t, blocks, v, 1, b, api.OK)
		if last := blocksOf(t, d)[blocks-1]; !bytes.Equal(last, b[maxBytes-blockSize:]) {
			t.Fatalf("the last block of %d became %v", blocks, last)
		}
		checkLoad(t, blocks, v, 1, b)
	}
}

// What stood in an area behind the blocks that are needed stays there, and does not matter.
func TestSaveOverSomethingLonger(t *testing.T) {
	d := newDisk(t, vaultSize)
	v := newVault(t, d, 0)
	checkSave(t, "long", v, 0, counted(maxBytes), api.OK)
	want := blocksOf(t, d)
	for i, n := range []int{300, 128, 129, 0, 1} {
		gen := 2 * (i + 1)
		checkSave(t, n, v, gen, filledBytes(7, n), api.OK)
		copy(want, areaOf(gen, filledBytes(7, n)))
		checkBlocks(t, n, d, want)
		checkLoad(t, n, v, gen, filledBytes(7, n))
	}
}

// The order of the writes: the contents from the first block on, and then the head.
func TestSaveWritesTheHeadLast(t *testing.T) {
	for _, n := range []int{0, 1, 128, 129, 500, maxBytes} {
		area := areaOf(7, counted(n))
		order := append(slices.Clone(area[1:]), area[0])
		for writes := range order {
			for _, keep := range []int{0, 60, 127, blockSize} {
				what := []int{n, writes, keep}
				d := newDisk(t, vaultSize)
				v := newVault(t, d, 0)
				arm(t, d, writes, keep)
				checkSave(t, what, v, 7, counted(n), api.ErrDown)
				checkWrites(t, what, d, writes+1)
				want := blocksOf(t, newDisk(t, vaultSize))
				for i, b := range order[:writes+1] {
					at := areaSize + (i+1)%len(order)
					want[at] = b
					if i == writes {
						want[at] = tornBytes(b, keep)
					}
				}
				checkBlocks(t, what, d, want)
			}
		}
	}
}

func TestSaveOfTooManyBytes(t *testing.T) {
	d := newDisk(t, vaultSize)
	v := newVault(t, d, 0)
	checkSave(t, "first", v, 1, []byte("one"), api.OK)
	before := blocksOf(t, d)
	arm(t, d, 0, 0)
	for _, n := range notLengths {
		for _, gen := range []int{0, 1, 2, maxGen} {
			checkSave(t, n, v, gen, make([]byte, n), api.ErrFull)
		}
	}
	checkBlocks(t, "too many", d, before)
	checkWrites(t, "too many", d, 2)
	checkLoad(t, "too many", v, 1, []byte("one"))
	d.Power()
	checkSave(t, "as many as may be", v, 2, counted(maxBytes), api.OK)
	checkLoad(t, "as many as may be", v, 2, counted(maxBytes))
}

func TestSaveOfNoGeneration(t *testing.T) {
	d := newDisk(t, vaultSize)
	v := newVault(t, d, 0)
	checkSave(t, "first", v, 1, []byte("one"), api.OK)
	before := blocksOf(t, d)
	arm(t, d, 0, 0)
	for _, gen := range notGens {
		for _, n := range []int{0, 1, 128, maxBytes} {
			checkSave(t, n, v, gen, counted(n), api.ErrRange)
		}
	}
	checkBlocks(t, "no generation", d, before)
	checkWrites(t, "no generation", d, 2)
	checkLoad(t, "no generation", v, 1, []byte("one"))
}

func TestSaveErrorsInTheirOrder(t *testing.T) {
	d := newDisk(t, vaultSize)
	v := newVault(t, d, 0)
	checkSave(t, "first", v, 1, []byte("one"), api.OK)
	tooMany := []int{maxBytes + 1, 256 * 128, 65536 * 128}
	for _, gen := range notGens {
		for _, n := range tooMany {
			checkSave(t, "on", v, gen, make([]byte, n), api.ErrRange)
		}
	}
	turnOff(t, d)
	before, writes := blocksOf(t, d), d.Writes()
	for _, gen := range notGens {
		for _, n := range append([]int{0, 1, maxBytes}, tooMany...) {
			checkSave(t, "off", v, gen, make([]byte, n), api.ErrRange)
		}
	}
	for _, gen := range gens {
		for _, n := range tooMany {
			checkSave(t, "off", v, gen, make([]byte, n), api.ErrFull)
		}
		for _, n := range []int{0, 1, 128, 129, maxBytes} {
			checkSave(t, "off", v, gen, make([]byte, n), api.ErrDown)
		}
	}
	checkBlocks(t, "off", d, before)
	checkWrites(t, "off", d, writes)
	d.Power()
	checkLoad(t, "on", v, 1, []byte("one"))
}

func TestSaveOfNil(t *testing.T) {
	for _, b := range [][]byte{nil, {}, counted(5)[:0], counted(5)[5:]} {
		d := newDisk(t, vaultSize)
		v := newVault(t, d, 0)
		checkSave(t, "empty", v, 1, b, api.OK)
		want := blocksOf(t, newDisk(t, vaultSize))
		want[areaSize] = headOf('V', 1, 0, make([]byte, 8))
		checkBlocks(t, "empty", d, want)
		checkWrites(t, "empty", d, 1)
		checkLoad(t, "empty", v, 1, nil)
	}
}

// The bytes are neither changed nor kept, and what is behind them in memory is not padding.
func TestSaveLeavesItsArgument(t *testing.T) {
	for _, n := range []int{0, 1, 64, 127, 128, 129, 255, 256, 300} {
		around := counted(1000)
		b := around[100 : 100+n]
		want := slices.Clone(b)
		d := newDisk(t, vaultSize)
		v := newVault(t, d, 0)
		checkSave(t, n, v, 0, b, api.OK)
		if !bytes.Equal(around, counted(1000)) {
			t.Fatalf("%d bytes: they became %v", n, around)
		}
		clear(around)
		blocks := blocksOf(t, newDisk(t, vaultSize))
		copy(blocks, areaOf(0, want))
		checkBlocks(t, n, d, blocks)
		checkLoad(t, n, v, 0, want)
	}
}

// The same generation again, or an earlier one: the area has what was saved in it last.
func TestSaveInAnyOrder(t *testing.T) {
	d := newDisk(t, vaultSize)
	v := newVault(t, d, 0)
	for _, c := range []struct {
		gen, want int
		b, loaded string
	}{
		{6, 6, "six", "six"},
		{6, 6, "six again", "six again"},
		{3, 6, "three", "six again"},
		{7, 7, "seven", "seven"},
		{5, 6, "five", "six again"},
		{2, 5, "two", "five"},
		{1, 2, "one", "two"},
		{0, 1, "nought", "one"},
		{maxGen, maxGen, "the last one", "the last one"},
		{maxGen - 1, maxGen, "the one before", "the last one"},
		{1, maxGen - 1, "one", "the one before"},
	} {
		checkSave(t, c.b, v, c.gen, []byte(c.b), api.OK)
		checkLoad(t, c.b, v, c.want, []byte(c.loaded))
	}
}

// P10.2: Load.

func TestLoadOfTheExample(t *testing.T) {
	d := newDisk(t, vaultSize)
	v := newVault(t, d, 0)
	checkSave(t, "one", v, 1, []byte("one"), api.OK)
	arm(t, d, 1, 0)
	checkSave(t, "two", v, 2, []byte("two"), api.ErrDown)
	want := blocksOf(t, newDisk(t, vaultSize))
	copy(want[areaSize:], areaOf(1, []byte("one")))
	want[0], want[1] = filled(255), areaOf(2, []byte("two"))[1]
	checkBlocks(t, "torn", d, want)
	checkNotLoad(t, "off", v, api.ErrDown)
	d.Power()
	checkLoad(t, "on", v, 1, []byte("one"))
	checkLoad(t, "another", newVault(t, d, 0), 1, []byte("one"))
	checkSave(t, "again", v, 2, []byte("two"), api.OK)
	checkLoad(t, "again", v, 2, []byte("two"))
}

func TestLoadOfNothing(t *testing.T) {
	for _, c := range []byte{0, 1, 'V', 255} {
		d := newDisk(t, maxBlocks)
		for i := range d.Len() {
			put(t, d, i, filled(c))
		}
		for _, from := range []int{0, 1, 256, 512} {
			checkNotLoad(t, c, newVault(t, d, from), api.ErrNone)
		}
		turnOff(t, d)
		checkNotLoad(t, c, newVault(t, d, 0), api.ErrDown)
		checkWrites(t, c, d, maxBlocks+1)
	}
}

// What is loaded is what the chapter's definition says, whoever wrote it.
func TestLoadOfEachLength(t *testing.T) {
	for _, from := range []int{0, 5} {
		for _, gen := range []int{0, 1, maxGen - 1, maxGen} {
			for _, n := range lengths {
				what := []int{from, gen, n}
				d := newDisk(t, from+vaultSize)
				put(t, d, from+gen%2*areaSize, areaOf(gen, counted(n))...)
				before, writes := blocksOf(t, d), d.Writes()
				v := newVault(t, d, from)
				checkLoad(t, what, v, gen, counted(n))
				checkLoad(t, what, v, gen, counted(n))
				checkBlocks(t, what, d, before)
				checkWrites(t, what, d, writes)
			}
		}
	}
}

func TestLoadOfTheGreatestGeneration(t *testing.T) {
	for _, even := range gens {
		for _, odd := range gens {
			if even%2 != 0 || odd%2 != 1 {
				continue
			}
			d := newDisk(t, vaultSize)
			put(t, d, 0, areaOf(even, []byte("even"))...)
			put(t, d, areaSize, areaOf(odd, []byte("odd"))...)
			v := newVault(t, d, 0)
			if even > odd {
				checkLoad(t, []int{even, odd}, v, even, []byte("even"))
			} else {
				checkLoad(t, []int{even, odd}, v, odd, []byte("odd"))
			}
			put(t, d, areaSize, filled(255))
			checkLoad(t, even, v, even, []byte("even"))
			put(t, d, 0, filled(255))
			put(t, d, areaSize, areaOf(odd, []byte("odd"))...)
			checkLoad(t, odd, v, odd, []byte("odd"))
		}
	}
}

// A generation in the other area does not count, however great it is.
func TestLoadOfAGenerationInTheOtherArea(t *testing.T) {
	for _, gen := range gens {
		d := newDisk(t, vaultSize)
		v := newVault(t, d, 0)
		other := (gen + 1) % 2
		put(t, d, other*areaSize, areaOf(gen, []byte("misplaced"))...)
		checkNotLoad(t, gen, v, api.ErrNone)
		// The area to which it belongs is the other one.
		for _, right := range []int{gen % 2, maxGen - 1 + gen%2} {
			put(t, d, right%2*areaSize, areaOf(right, []byte("placed"))...)
			checkLoad(t, gen, v, right, []byte("placed"))
		}
	}
}

// twoBlocks are bytes that need two blocks, with some padding.
func twoBlocks() []byte { return counted(200) }

// notAreas are the first blocks of areas that do not hold twoBlocks in a generation.
func notAreas(gen int) map[string][][]byte {
	b := twoBlocks()
	n, sum, u := uint32(len(b)), crc32.ChecksumIEEE(b), uint32(gen)
	whole := areaOf(gen, b)
	payload := payloadOf(n, sum)
	all := map[string][][]byte{
		"no head":                  {filled(0)},
		"a lost head":              {filled(255)},
		"a record":                 {headOf('R', u, 2, payload)},
		"a commit":                 {headOf('C', u, 2, payload)},
		"a generation out of it":   {headOf('V', u+1<<31, 2, payload)},
		"the next generation":      {headOf('V', u+1, 2, payload)},
		"no blocks":                {headOf('V', u, 0, payload)},
		"a block less":             {headOf('V', u, 1, payload)},
		"a block more":             {headOf('V', u, 3, payload)},
		"all blocks":               {headOf('V', u, 255, payload)},
		"an area's blocks":         {headOf('V', u, 256, payload)},
		"blocks with a high byte":  {headOf('V', u, 256+2, payload)},
		"the most blocks":          {headOf('V', u, 65535, payload)},
		"no payload":               {headOf('V', u, 2, nil)},
		"a number alone":           {headOf('V', u, 2, payload[:4])},
		"a payload of 7":           {headOf('V', u, 2, payload[:7])},
		"a payload of 9":           {headOf('V', u, 2, append(slices.Clone(payload), 0))},
		"a payload of 112":         {headOf('V', u, 2, append(slices.Clone(payload), make([]byte, 104)...))},
		"a payload with the bytes": {headOf('V', u, 2, append(slices.Clone(payload), b[:50]...))},
		"too many bytes by one":    {headOf('V', u, 256, payloadOf(maxBytes+1, sum))},
		"too many for the blocks":  {headOf('V', u, 255, payloadOf(maxBytes+1, sum))},
		"a byte less":              {headOf('V', u, 2, payloadOf(n-1, sum))},
		"a byte more":              {headOf('V', u, 2, payloadOf(n+1, sum))},
		"no bytes":                 {headOf('V', u, 2, payloadOf(0, sum))},
		"no bytes, no blocks":      {headOf('V', u, 0, payloadOf(0, sum))},
		"a byte, no sum":           {headOf('V', u, 1, payloadOf(1, 0))},
		"bytes of high numbers":    {headOf('V', u, 2, payloadOf(n+1<<24, sum))},
		"2^31 bytes":               {headOf('V', u, 0, payloadOf(1<<31, sum))},
		"2^32 - 1 bytes":           {headOf('V', u, 65535, payloadOf(math.MaxUint32, sum))},
		"no sum":                   {headOf('V', u, 2, payloadOf(n, 0))},
		"another sum":              {headOf('V', u, 2, payloadOf(n, sum+1))},
		"a turned sum":             {headOf('V', u, 2, payloadOf(n, ^sum))},
		"the sum first":            {headOf('V', u, 2, payloadOf(sum, n))},
		"the sum's other order":    {headOf('V', u, 2, binary.LittleEndian.AppendUint32(payload[:4:4], sum))},
		"the sum of the padded":    {headOf('V', u, 2, payloadOf(n, crc32.ChecksumIEEE(slices.Concat(whole[1:]...))))},
		"the contents twisted":     {whole[0], whole[2], whole[1]},
		"the contents later":       {whole[0], filled(0), whole[1], whole[2]},
		"the contents earlier":     {whole[0], whole[2], filled(0)},
		"no contents":              {whole[0], filled(0), filled(0)},
		"lost contents":            {whole[0], filled(255), filled(255)},
		"the last block lost":      {whole[0], whole[1], filled(255)},
		"torn within the bytes":    {whole[0], whole[1], tornBytes(whole[2], 71)},
		"torn within the padding":  {whole[0], whole[1], tornBytes(whole[2], 127)},
		"torn between":             {whole[0], whole[1], tornBytes(whole[2], 72)},
	}
	for what, blocks := range all {
		if len(blocks) == 1 {
			all[what] = append(blocks, whole[1:]...)
		}
	}
	return all
}

func TestLoadOfWhatIsNotHeld(t *testing.T) {
	for _, from := range []int{0, 7} {
		for _, gen := range []int{0, 1, 8, 9} {
			for what, blocks := range notAreas(gen) {
				d := newDisk(t, from+vaultSize)
				at, other := from+gen%2*areaSize, from+(gen+1)%2*areaSize
				put(t, d, at, blocks...)
				before := blocksOf(t, d)
				v := newVault(t, d, from)
				checkNotLoad(t, what, v, api.ErrNone)
				checkBlocks(t, what, d, before)
				// The other area is not kept from holding something, be it earlier or later.
				for _, right := range []int{(gen + 1) % 2, 100 + (gen+1)%2} {
					put(t, d, other, areaOf(right, []byte("the other one"))...)
					checkLoad(t, what, v, right, []byte("the other one"))
				}
				put(t, d, at, areaOf(gen+200, twoBlocks())...)
				checkLoad(t, what, v, gen+200, twoBlocks())
			}
		}
	}
}

// A head of no bytes has the number 0, and the checksum of none.
func TestLoadOfWhatIsNotHeldOfNoBytes(t *testing.T) {
	d := newDisk(t, vaultSize)
	v := newVault(t, d, 0)
	for _, head := range [][]byte{
		headOf('V', 2, 1, payloadOf(0, 0)),
		headOf('V', 2, 0, payloadOf(0, 1)),
		headOf('V', 2, 0, payloadOf(1, 0)),
		headOf('V', 2, 1, payloadOf(1, 0)),
		headOf('V', 2, 0, nil),
		headOf('V', 2, 0, make([]byte, 7)),
		headOf('V', 2, 0, make([]byte, 9)),
		headOf('V', 3, 0, payloadOf(0, 0)),
	} {
		put(t, d, 0, head)
		checkNotLoad(t, head[:16], v, api.ErrNone)
	}
	put(t, d, 0, headOf('V', 2, 0, payloadOf(0, 0)))
	checkLoad(t, "none", v, 2, nil)
	// Whatever is in the contents: none of it is needed.
	put(t, d, 1, filled(1))
	checkLoad(t, "none", v, 2, nil)
}

// A number of bytes that no area has room for, with blocks that would have them: those of the next area, and those behind the vault.
func TestLoadKeepsToItsArea(t *testing.T) {
	for _, n := range []int{maxBytes + 1, maxBytes + 2, 256 * 128, 256*128 + 1, 300 * 128, 511 * 128} {
		for gen := range 2 {
			d := newDisk(t, maxBlocks)
			put(t, d, gen*areaSize, areaOf(gen, counted(n))...)
			checkNotLoad(t, n, newVault(t, d, 0), api.ErrNone)
		}
	}
	// With the last block of the disk, there is nothing behind it.
	for _, n := range []int{maxBytes + 1, 65535 * 128} {
		d := newDisk(t, vaultSize)
		put(t, d, areaSize, headOf('V', 1, uint16(needed(n)), payloadOf(uint32(n), 0)))
		checkNotLoad(t, n, newVault(t, d, 0), api.ErrNone)
	}
}

// Whichever byte of the head, the contents and the padding is another one, the area does not hold the bytes.
func TestLoadOfEachByteReplaced(t *testing.T) {
	for _, n := range []int{0, 1, 127, 128, 129, 200, 256} {
		d := newDisk(t, vaultSize)
		v := newVault(t, d, 0)
		checkSave(t, n, v, 4, []byte("before"), api.OK)
		area := areaOf(5, counted(n))
		put(t, d, areaSize, area...)
		for i, b := range area {
			for at := range b {
				for _, by := range []byte{b[at] + 1, b[at] - 1, b[at] ^ 128, b[at] ^ 1} {
					changed := slices.Clone(b)
					changed[at] = by
					put(t, d, areaSize+i, changed)
					checkLoad(t, []int{n, i, at}, v, 4, []byte("before"))
				}
			}
			put(t, d, areaSize+i, b)
		}
		checkLoad(t, n, v, 5, counted(n))
	}
}

// The same of the greatest contents, a byte in each block.
func TestLoadOfAByteOfEachBlockReplaced(t *testing.T) {
	for _, n := range []int{127 * 128, 129*128 - 5, maxBytes - 1, maxBytes} {
		d := newDisk(t, vaultSize)
		v := newVault(t, d, 0)
		area := areaOf(2, counted(n))
		put(t, d, 0, area...)
		for i, b := range area {
			changed := slices.Clone(b)
			changed[blockSize-1-i%blockSize] ^= 16
			put(t, d, i, changed)
			checkNotLoad(t, []int{n, i}, v, api.ErrNone)
			put(t, d, i, b)
		}
		// What is behind the blocks that are needed does not matter.
		for i := len(area); i < areaSize; i++ {
			put(t, d, i, filled(byte(i)))
		}
		checkLoad(t, n, v, 2, counted(n))
	}
}

func TestLoadErrorsInTheirOrder(t *testing.T) {
	d := newDisk(t, vaultSize)
	v := newVault(t, d, 0)
	checkNotLoad(t, "on", v, api.ErrNone)
	turnOff(t, d)
	checkNotLoad(t, "off", v, api.ErrDown)
	d.Power()
	checkSave(t, "on", v, 0, []byte("nought"), api.OK)
	turnOff(t, d)
	checkNotLoad(t, "off", v, api.ErrDown)
	d.Power()
	checkLoad(t, "on", v, 0, []byte("nought"))
}

// The bytes are the caller's: neither the disk nor another call has a part of them.
func TestLoadReturnsNewMemory(t *testing.T) {
	for _, n := range []int{1, 100, 128, 129, 300} {
		d := newDisk(t, vaultSize)
		v := newVault(t, d, 0)
		checkSave(t, n, v, 1, counted(n), api.OK)
		before := blocksOf(t, d)
		_, one, _ := v.Load()
		_, two, _ := v.Load()
		clear(one)
		_ = append(one, filled(9)...)
		if !bytes.Equal(two, counted(n)) {
			t.Fatalf("the bytes of another call became %v", two)
		}
		checkBlocks(t, n, d, before)
		checkLoad(t, n, v, 1, counted(n))
		// And nothing that a Save does changes them.
		checkSave(t, n, v, 3, make([]byte, n), api.OK)
		if !bytes.Equal(two, counted(n)) {
			t.Fatalf("the bytes became %v with another Save", two)
		}
	}
}

// Two vaults on a disk, used one after the other, leave each other's blocks.
func TestTwoVaultsOnADisk(t *testing.T) {
	d := newDisk(t, maxBlocks)
	one, two := newVault(t, d, 0), newVault(t, d, vaultSize)
	for gen := range 6 {
		checkSave(t, gen, one, gen, counted(maxBytes-gen), api.OK)
		checkSave(t, gen, two, gen+7, counted(maxBytes-100*gen), api.OK)
		checkLoad(t, gen, one, gen, counted(maxBytes-gen))
		checkLoad(t, gen, two, gen+7, counted(maxBytes-100*gen))
	}
}

// P10.3: nil.

func TestInvalidVaults(t *testing.T) {
	for _, v := range []*vault.Vault{nil, new(vault.Vault), {}} {
		for range 2 {
			for _, gen := range append([]int{0, 1, maxGen}, notGens...) {
				for _, n := range []int{0, 1, 128, maxBytes, maxBytes + 1} {
					checkSave(t, "invalid", v, gen, make([]byte, n), api.ErrNil)
				}
				checkSave(t, "invalid", v, gen, nil, api.ErrNil)
			}
			if gen, b, e := v.Load(); gen != 0 || b != nil || e != api.ErrNil {
				t.Fatalf("Load() = %d, %v, %v, want 0, nil, ErrNil", gen, b, e)
			}
		}
	}
}

// P10.4: what holds after any fuse.

// fuse is where a Save is torn.
type fuse struct{ writes, keep int }

// fuses are all the fuses for so many writes, and those that they do not reach.
func fuses(writes int, keeps ...int) []fuse {
	var all []fuse
	for n := range writes + 1 {
		for _, keep := range keeps {
			all = append(all, fuse{n, keep})
		}
	}
	return all
}

// allKeeps are from 0 to 128.
func allKeeps() []int {
	var all []int
	for keep := range blockSize + 1 {
		all = append(all, keep)
	}
	return all
}

// checkFuse saves bytes with a fuse, and holds what is loaded after Power against the bytes, or what was saved before. It tells whether these are the bytes.
func checkFuse(t *testing.T, d *disk.Disk, from int, f fuse, gen int, b, before []byte) bool {
	t.Helper()
	head := needed(len(b))
	v, want := newVault(t, d, from), api.OK
	if f.writes <= head {
		want = api.ErrDown
	}
	arm(t, d, f.writes, f.keep)
	checkSave(t, f, v, gen, b, want)
	if want == api.ErrDown {
		checkNotLoad(t, f, v, api.ErrDown)
	}
	d.Power()
	whole := want == api.OK || f.writes == head && f.keep == blockSize
	for _, v := range []*vault.Vault{v, newVault(t, d, from)} {
		switch {
		case whole:
			checkLoad(t, f, v, gen, b)
		case gen == 0:
			checkNotLoad(t, f, v, api.ErrNone)
		default:
			checkLoad(t, f, v, gen-1, before)
		}
	}
	return whole
}

// Each fuse of the first Save, of the one behind it that is in the other area, and of those that write over something.
func TestEachFuse(t *testing.T) {
	for _, n := range []int{0, 1, 128, 300} {
		for gen := range 4 {
			for _, f := range fuses(needed(n)+1, allKeeps()...) {
				d := newDisk(t, vaultSize)
				v := newVault(t, d, 0)
				var before []byte
				for earlier := range gen {
					before = filledBytes(byte(earlier), 2*n+earlier)
					checkSave(t, f, v, earlier, before, api.OK)
				}
				checkFuse(t, d, 0, f, gen, counted(n), before)
			}
		}
	}
}

// The same where the area has bytes that are almost the same: what is torn does not make either of them whole.
func TestEachFuseOverSimilarBytes(t *testing.T) {
	for _, at := range []int{0, 5, 128, 255, 299} {
		for _, f := range fuses(4, allKeeps()...) {
			d := newDisk(t, vaultSize)
			v := newVault(t, d, 0)
			b := counted(300)
			checkSave(t, f, v, 2, counted(300), api.OK)
			checkSave(t, f, v, 3, []byte("three"), api.OK)
			b[at] ^= 4
			checkFuse(t, d, 0, f, 4, b, []byte("three"))
		}
	}
}

// The same of many blocks.
func TestEachFuseOfManyBlocks(t *testing.T) {
	for _, n := range []int{127 * 128, 129*128 - 1, maxBytes} {
		d := newDisk(t, vaultSize)
		v := newVault(t, d, 0)
		checkSave(t, n, v, 6, filledBytes(6, n), api.OK)
		checkSave(t, n, v, 7, filledBytes(7, n), api.OK)
		for _, f := range fuses(needed(n)+1, 0, 1, 127, blockSize) {
			d := d.Copy()
			checkFuse(t, d, 0, f, 8, counted(n), filledBytes(7, n))
		}
	}
}

// One Save after another, each of the next generation, with any fuses: a Save that left nothing is done again, with other bytes.
func TestSavesOneAfterAnother(t *testing.T) {
	next := mixed()
	for _, from := range []int{0, 3} {
		d := newDisk(t, from+vaultSize)
		var before []byte
		for gen := range 400 {
			for whole := false; !whole; {
				b := mixedBytes(next, next(1000))
				f := fuse{next(2*needed(len(b)) + 3), next(blockSize + 1)}
				if next(3) == 0 {
					f.keep = blockSize
				}
				whole = checkFuse(t, d, from, f, gen, b, before)
				if whole {
					before = b
				}
			}
		}
	}
}

// The last generation there is, and the one before it.
func TestEachFuseOfTheLastGeneration(t *testing.T) {
	for _, f := range fuses(3, 0, 1, 64, 127, blockSize) {
		d := newDisk(t, vaultSize)
		v := newVault(t, d, 0)
		checkSave(t, f, v, maxGen-1, []byte("the one before"), api.OK)
		checkFuse(t, d, 0, f, maxGen, counted(129), []byte("the one before"))
	}
}

// The whole, against a model.

// modelDisk is a disk by its chapter.
type modelDisk struct {
	blocks     [][]byte
	on, armed  bool
	left, keep int
}

// write writes a block, or tears it.
func (d *modelDisk) write(i int, b []byte) api.Errno {
	if !d.on {
		return api.ErrDown
	}
	if d.armed && d.left == 0 {
		d.blocks[i] = tornBytes(b, d.keep)
		d.on, d.armed = false, false
		return api.ErrDown
	}
	d.left--
	d.blocks[i] = slices.Clone(b)
	return api.OK
}

// modelVault is a vault by the chapter.
type modelVault struct {
	d    *modelDisk
	from int
}

// save saves bytes.
func (m modelVault) save(gen int, b []byte) api.Errno {
	if gen < 0 || gen > maxGen {
		return api.ErrRange
	}
	if needed(len(b)) > 255 {
		return api.ErrFull
	}
	area, at := areaOf(gen, b), m.from+gen%2*areaSize
	for i := 1; i <= len(area); i++ {
		if e := m.d.write(at+i%len(area), area[i%len(area)]); e != api.OK {
			return e
		}
	}
	return api.OK
}

// held is what an area holds: its first blocks are those of such bytes.
func (m modelVault) held(at int) (int, []byte, bool) {
	head := m.d.blocks[at]
	gen, n := int(binary.BigEndian.Uint32(head[1:])), int(binary.BigEndian.Uint32(head[8:]))
	if gen > maxGen || n > maxBytes {
		return 0, nil, false
	}
	b := slices.Concat(m.d.blocks[at+1 : at+areaSize]...)[:n]
	for i, block := range areaOf(gen, b) {
		if !bytes.Equal(block, m.d.blocks[at+i]) {
			return 0, nil, false
		}
	}
	return gen, b, true
}

// load is what is loaded.
func (m modelVault) load() (int, []byte, api.Errno) {
	if !m.d.on {
		return 0, nil, api.ErrDown
	}
	even, first, ok := m.held(m.from)
	odd, second, too := m.held(m.from + areaSize)
	ok, too = ok && even%2 == 0, too && odd%2 == 1
	switch {
	case ok && (!too || even > odd):
		return even, first, api.OK
	case too:
		return odd, second, api.OK
	}
	return 0, nil, api.ErrNone
}

// machine is a disk with some vaults, and the model of both. Some of the vaults share blocks.
type machine struct {
	d    *disk.Disk
	m    *modelDisk
	vs   []*vault.Vault
	ms   []modelVault
	next func(below int) int
}

// newMachine is a new machine. Of two vaults, the second area of one is the first area of the other.
func newMachine(t *testing.T, next func(below int) int) *machine {
	x := &machine{d: newDisk(t, maxBlocks), m: &modelDisk{on: true}, next: next}
	for range maxBlocks {
		x.m.blocks = append(x.m.blocks, filled(0))
	}
	for _, from := range []int{0, 0, areaSize, 511, 512} {
		x.vs = append(x.vs, newVault(t, x.d, from))
		x.ms = append(x.ms, modelVault{d: x.m, from: from})
	}
	return x
}

// bytes are some bytes, mostly of a few blocks.
func (x *machine) bytes() []byte {
	switch x.next(12) {
	case 0:
		return nil
	case 1:
		return mixedBytes(x.next, blockSize*x.next(5))
	case 2:
		return mixedBytes(x.next, blockSize*250+x.next(blockSize*6))
	}
	return mixedBytes(x.next, x.next(700))
}

// call does any one thing on the machine and on the model, and holds the results against each other.
func (x *machine) call(t *testing.T, what int) {
	t.Helper()
	i := x.next(len(x.vs))
	v, m := x.vs[i], x.ms[i]
	switch x.next(12) {
	case 0, 1, 2, 3, 4, 5:
		gen, b := x.next(12)-1, x.bytes()
		if e, want := v.Save(gen, b), m.save(gen, b); e != want {
			t.Fatalf("call %d: Save(%d, %d bytes) = %v, want %v", what, gen, len(b), e, want)
		}
	case 6:
		n, keep := x.next(12), x.next(blockSize+1)
		if x.next(3) == 0 {
			keep = blockSize
		}
		arm(t, x.d, n, keep)
		x.m.armed, x.m.left, x.m.keep = true, n, keep
	case 7, 8, 9:
		x.d.Power()
		x.m.on, x.m.armed = true, false
	case 10:
		// A block is written over another one, as it is or with another byte.
		at, b := x.next(maxBlocks), slices.Clone(x.m.blocks[x.next(maxBlocks)])
		if x.next(2) == 0 {
			at = i % 2 * areaSize
			b = slices.Clone(x.m.blocks[at])
			b[x.next(blockSize)] ^= 1
		}
		if e, want := x.d.Write(at, b), x.m.write(at, b); e != want {
			t.Fatalf("call %d: disk.Write(%d) = %v, want %v", what, at, e, want)
		}
	}
	x.check(t, what)
}

// check holds what all vaults load against the model.
func (x *machine) check(t *testing.T, what int) {
	t.Helper()
	for i, v := range x.vs {
		gen, b, e := v.Load()
		if n, want, f := x.ms[i].load(); gen != n || !bytes.Equal(b, want) || e != f {
			t.Fatalf("call %d: Load() of %d = %d, %v, %v, want %d, %v, %v", what, i, gen, b, e, n, want, f)
		}
	}
}

func TestMixedCalls(t *testing.T) {
	next := mixed()
	for range 8 {
		x := newMachine(t, next)
		for what := range 200 {
			x.call(t, what)
		}
		checkBlocks(t, "at the end", x.d, x.m.blocks)
	}
}

// The results depend on the calls alone: the same calls give the same ones.
func TestMixedCallsTwice(t *testing.T) {
	var all [2][][]byte
	for i := range all {
		x := newMachine(t, mixed())
		for what := range 150 {
			x.call(t, what)
		}
		all[i] = blocksOf(t, x.d)
	}
	if !slices.EqualFunc(all[0], all[1], bytes.Equal) {
		t.Fatal("the same calls have left other blocks")
	}
}

// A block that package frame writes is the head that the tests work out.
func TestHeadsAreFrames(t *testing.T) {
	for _, gen := range gens {
		for _, n := range lengths {
			payload := payloadOf(uint32(n), crc32.ChecksumIEEE(counted(n)))
			want, e := frame.Write(frame.Head, gen, needed(n), payload)
			if head := areaOf(gen, counted(n))[0]; e != api.OK || !bytes.Equal(head, want) {
				t.Fatalf("the head of %d bytes in generation %d is %v, want %v", n, gen, head, want)
			}
		}
	}
}
