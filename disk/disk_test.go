package disk_test

import (
	"bytes"
	"math"
	"slices"
	"testing"

	"forepeak/api"
	"forepeak/disk"
)

const (
	blockSize = 128
	maxBlocks = 1024
)

// notLengths are numbers of bytes that blocks do not have.
var notLengths = []int{0, 1, 64, 127, 129, 255, 256, 128 + 256, 65536, 65536 + 128}

// notKeeps are numbers of bytes that a fuse cannot keep.
var notKeeps = []int{-1, -2, -128, 129, 130, 256, 256 + 5, 65536, math.MaxInt, math.MinInt}

// mixed returns a source of numbers that look like any, the same ones in each run.
func mixed() func(below int) int {
	x := uint64(1)
	return func(below int) int {
		x = x*6364136223846793005 + 1442695040888963407
		return int(x>>33) % below
	}
}

// mixedBytes are any bytes.
func mixedBytes(next func(below int) int, n int) []byte {
	b := make([]byte, n)
	for i := range b {
		b[i] = byte(next(256))
	}
	return b
}

// counted are the bytes of a block, each one more than the one before. From 1 to 127 on, none of them is 0 or 255.
func counted(from int) []byte {
	b := make([]byte, blockSize)
	for i := range b {
		b[i] = byte(from + i)
	}
	return b
}

// filled is a block of one byte.
func filled(c byte) []byte { return bytes.Repeat([]byte{c}, blockSize) }

// tornBytes is what a block has by the chapter after a torn write of bytes.
func tornBytes(b []byte, keep int) []byte {
	return append(slices.Clone(b[:keep]), bytes.Repeat([]byte{255}, blockSize-keep)...)
}

// newDisk is a disk of so many blocks.
func newDisk(t *testing.T, blocks int) *disk.Disk {
	t.Helper()
	d, e := disk.New(blocks)
	if d == nil || e != api.OK {
		t.Fatalf("New(%d) = %v, %v", blocks, d, e)
	}
	return d
}

// mustWrite writes a block and holds the error against another one.
func mustWrite(t *testing.T, d *disk.Disk, i int, b []byte, want api.Errno) {
	t.Helper()
	if e := d.Write(i, b); e != want {
		t.Fatalf("Write(%d) of %d bytes = %v, want %v", i, len(b), e, want)
	}
}

// mustArm arms a fuse and holds the error against another one.
func mustArm(t *testing.T, d *disk.Disk, n, keep int, want api.Errno) {
	t.Helper()
	if e := d.Arm(n, keep); e != want {
		t.Fatalf("Arm(%d, %d) = %v, want %v", n, keep, e, want)
	}
}

// checkBlock holds what a block has against other bytes.
func checkBlock(t *testing.T, d *disk.Disk, i int, want []byte) {
	t.Helper()
	if b, e := d.Read(i); !bytes.Equal(b, want) || e != api.OK {
		t.Fatalf("Read(%d) = %v, %v, want %v, OK", i, b, e, want)
	}
}

// checkNoBlock tells that a block cannot be read, and that nothing is returned beside the error.
func checkNoBlock(t *testing.T, d *disk.Disk, i int, want api.Errno) {
	t.Helper()
	if b, e := d.Read(i); len(b) != 0 || e != want {
		t.Fatalf("Read(%d) = %v, %v, want none, %v", i, b, e, want)
	}
}

// checkState holds whether a disk is on, and its number of writes, against others.
func checkState(t *testing.T, d *disk.Disk, on bool, writes int) {
	t.Helper()
	if d.On() != on || d.Writes() != writes {
		t.Fatalf("On() = %v, Writes() = %d, want %v, %d", d.On(), d.Writes(), on, writes)
	}
}

// notBlocks are numbers of blocks that a disk does not have.
func notBlocks(blocks int) []int {
	return []int{-1, -2, -blocks, blocks, blocks + 1, 2 * blocks, 256 + blocks, 65536, math.MaxInt, math.MinInt}
}

// P7.1: New, Len, Write, Read.

func TestNewOfEachSize(t *testing.T) {
	for blocks := 1; blocks <= maxBlocks; blocks++ {
		d := newDisk(t, blocks)
		if n := d.Len(); n != blocks {
			t.Fatalf("New(%d): Len() = %d", blocks, n)
		}
		checkState(t, d, true, 0)
		for _, i := range []int{0, blocks / 2, blocks - 1} {
			checkBlock(t, d, i, filled(0))
		}
		checkNoBlock(t, d, blocks, api.ErrRange)
	}
}

func TestNewErrors(t *testing.T) {
	for _, blocks := range []int{0, -1, -2, -1024, 1025, 1026, 2048, 65536, 65537, math.MaxInt32, math.MaxInt, math.MinInt} {
		if d, e := disk.New(blocks); d != nil || e != api.ErrRange {
			t.Errorf("New(%d) = %v, %v, want none, ErrRange", blocks, d, e)
		}
	}
}

func TestAllBytesAre0AtFirst(t *testing.T) {
	d := newDisk(t, maxBlocks)
	for i := range maxBlocks {
		checkBlock(t, d, i, filled(0))
	}
}

func TestWriteAndReadEachBlock(t *testing.T) {
	for _, blocks := range []int{1, 2, 3, 17, maxBlocks} {
		d := newDisk(t, blocks)
		next := mixed()
		var all [][]byte
		for i := range blocks {
			b := mixedBytes(next, blockSize)
			all = append(all, b)
			mustWrite(t, d, i, b, api.OK)
			checkBlock(t, d, i, b)
		}
		for i, b := range all {
			checkBlock(t, d, i, b)
		}
		checkState(t, d, true, blocks)
		if n := d.Len(); n != blocks {
			t.Fatal(n)
		}
	}
}

func TestWriteReplacesAllBytes(t *testing.T) {
	d := newDisk(t, 3)
	for i, b := range [][]byte{filled(255), filled(0), counted(1), filled(7), counted(100), filled(0)} {
		mustWrite(t, d, 1, b, api.OK)
		checkBlock(t, d, 1, b)
		checkState(t, d, true, i+1)
	}
}

func TestWriteErrors(t *testing.T) {
	for _, blocks := range []int{1, 5, maxBlocks} {
		d := newDisk(t, blocks)
		mustWrite(t, d, 0, counted(1), api.OK)
		for _, i := range notBlocks(blocks) {
			mustWrite(t, d, i, filled(9), api.ErrRange)
		}
		for _, n := range notLengths {
			mustWrite(t, d, 0, make([]byte, n), api.ErrArg)
			mustWrite(t, d, blocks-1, make([]byte, n), api.ErrArg)
		}
		mustWrite(t, d, 0, nil, api.ErrArg)
		checkBlock(t, d, 0, counted(1))
		checkState(t, d, true, 1)
	}
}

func TestWriteErrorsInTheirOrder(t *testing.T) {
	const blocks = 4
	for _, on := range []bool{true, false} {
		d := newDisk(t, blocks)
		down := api.OK
		if !on {
			mustArm(t, d, 0, 0, api.OK)
			mustWrite(t, d, 0, filled(1), api.ErrDown)
			down = api.ErrDown
		}
		for _, i := range notBlocks(blocks) {
			mustWrite(t, d, i, filled(1), api.ErrRange)
			mustWrite(t, d, i, nil, api.ErrRange)
			for _, n := range notLengths {
				mustWrite(t, d, i, make([]byte, n), api.ErrRange)
			}
		}
		for _, n := range notLengths {
			mustWrite(t, d, 3, make([]byte, n), api.ErrArg)
		}
		mustWrite(t, d, 3, filled(1), down)
	}
}

func TestReadErrorsInTheirOrder(t *testing.T) {
	for _, blocks := range []int{1, 4, maxBlocks} {
		d := newDisk(t, blocks)
		for _, i := range notBlocks(blocks) {
			checkNoBlock(t, d, i, api.ErrRange)
		}
		mustArm(t, d, 0, 128, api.OK)
		mustWrite(t, d, 0, filled(1), api.ErrDown)
		for _, i := range notBlocks(blocks) {
			checkNoBlock(t, d, i, api.ErrRange)
		}
		checkNoBlock(t, d, 0, api.ErrDown)
		checkNoBlock(t, d, blocks-1, api.ErrDown)
	}
}

func TestRejectedWritesDoNothing(t *testing.T) {
	d := newDisk(t, 2)
	mustWrite(t, d, 0, counted(1), api.OK)
	mustArm(t, d, 1, 3, api.OK)
	for range 5 {
		mustWrite(t, d, 2, filled(1), api.ErrRange)
		mustWrite(t, d, -1, filled(1), api.ErrRange)
		mustWrite(t, d, 0, make([]byte, 127), api.ErrArg)
	}
	checkState(t, d, true, 1)
	checkBlock(t, d, 0, counted(1))
	// The fuse has still one write that succeeds.
	mustWrite(t, d, 1, filled(2), api.OK)
	for range 5 {
		mustWrite(t, d, 2, filled(1), api.ErrRange)
		mustWrite(t, d, 0, make([]byte, 129), api.ErrArg)
	}
	checkState(t, d, true, 2)
	mustWrite(t, d, 0, filled(3), api.ErrDown)
	for range 5 {
		mustWrite(t, d, 1, filled(4), api.ErrDown)
	}
	checkState(t, d, false, 3)
	d.Power()
	checkState(t, d, true, 3)
	checkBlock(t, d, 0, tornBytes(filled(3), 3))
	checkBlock(t, d, 1, filled(2))
}

func TestWriteKeepsAndChangesNoArgument(t *testing.T) {
	d := newDisk(t, 2)
	whole := append(counted(1), "and more"...)
	mustWrite(t, d, 0, whole[:blockSize], api.OK)
	mustArm(t, d, 0, 50, api.OK)
	mustWrite(t, d, 1, whole[:blockSize], api.ErrDown)
	if want := append(counted(1), "and more"...); !bytes.Equal(whole, want) {
		t.Fatal("changed:", whole)
	}
	clear(whole)
	d.Power()
	checkBlock(t, d, 0, counted(1))
	checkBlock(t, d, 1, tornBytes(counted(1), 50))
}

func TestReadAnswersNewBytes(t *testing.T) {
	d := newDisk(t, 2)
	mustWrite(t, d, 0, counted(1), api.OK)
	mustWrite(t, d, 1, counted(2), api.OK)
	one, _ := d.Read(0)
	two, _ := d.Read(0)
	clear(one)
	one = append(one, "over and over"...)
	checkBlock(t, d, 0, counted(1))
	checkBlock(t, d, 1, counted(2))
	if !bytes.Equal(two, counted(1)) {
		t.Fatal("two results share bytes:", two)
	}
	// Neither another block nor anything else is in the result's capacity.
	for _, c := range two[len(two):cap(two)] {
		if c != 0 {
			t.Fatal("beyond the length:", two[:cap(two)])
		}
	}
	mustWrite(t, d, 0, filled(9), api.OK)
	if !bytes.Equal(two, counted(1)) {
		t.Fatal("a result changed:", two)
	}
}

func TestDisksAreTheirOwn(t *testing.T) {
	one, two := newDisk(t, 2), newDisk(t, 3)
	mustWrite(t, one, 0, filled(1), api.OK)
	mustArm(t, one, 0, 0, api.OK)
	mustWrite(t, one, 1, filled(1), api.ErrDown)
	checkState(t, one, false, 2)
	checkState(t, two, true, 0)
	checkBlock(t, two, 0, filled(0))
	checkBlock(t, two, 1, filled(0))
	mustWrite(t, two, 1, filled(2), api.OK)
	if one.Len() != 2 || two.Len() != 3 {
		t.Fatal(one.Len(), two.Len())
	}
}

// P7.1 and P7.2: torn writes.

func TestExampleOfTheFuse(t *testing.T) {
	for _, b := range [][]byte{filled(0), counted(1)} {
		d := newDisk(t, 1)
		mustArm(t, d, 0, 2, api.OK)
		mustWrite(t, d, 0, b, api.ErrDown)
		d.Power()
		checkBlock(t, d, 0, append([]byte{b[0], b[1]}, bytes.Repeat([]byte{255}, 126)...))
	}
}

func TestTornWritesOfEachKeep(t *testing.T) {
	for keep := range blockSize + 1 {
		for _, before := range [][]byte{filled(0), filled(7), counted(90)} {
			d := newDisk(t, 3)
			mustWrite(t, d, 1, before, api.OK)
			mustArm(t, d, 0, keep, api.OK)
			checkState(t, d, true, 1)
			checkBlock(t, d, 1, before)
			mustWrite(t, d, 1, counted(1), api.ErrDown)
			checkState(t, d, false, 2)
			checkNoBlock(t, d, 1, api.ErrDown)
			mustWrite(t, d, 1, filled(3), api.ErrDown)
			checkState(t, d, false, 2)
			d.Power()
			checkState(t, d, true, 2)
			checkBlock(t, d, 1, tornBytes(counted(1), keep))
			// The fuse is removed.
			mustWrite(t, d, 0, filled(3), api.OK)
			mustWrite(t, d, 1, filled(4), api.OK)
			checkBlock(t, d, 1, filled(4))
			checkState(t, d, true, 4)
		}
	}
}

func TestFuseOfEachNumberOfWrites(t *testing.T) {
	for n := range 70 {
		for _, keep := range []int{0, 1, 64, 127, 128} {
			d := newDisk(t, 5)
			mustArm(t, d, n, keep, api.OK)
			for i := range n {
				mustWrite(t, d, i%5, counted(i), api.OK)
				checkBlock(t, d, i%5, counted(i))
			}
			checkState(t, d, true, n)
			mustWrite(t, d, n%5, counted(n), api.ErrDown)
			checkState(t, d, false, n+1)
			d.Power()
			checkBlock(t, d, n%5, tornBytes(counted(n), keep))
		}
	}
}

func TestReadsDoNotUseTheFuse(t *testing.T) {
	d := newDisk(t, 2)
	mustArm(t, d, 1, 0, api.OK)
	for range 10 {
		checkBlock(t, d, 0, filled(0))
		checkNoBlock(t, d, 2, api.ErrRange)
	}
	checkState(t, d, true, 0)
	mustWrite(t, d, 0, filled(1), api.OK)
	for range 10 {
		checkBlock(t, d, 0, filled(1))
	}
	mustWrite(t, d, 0, filled(2), api.ErrDown)
}

func TestFuseThatIsFarOff(t *testing.T) {
	for _, n := range []int{1000, math.MaxInt32, math.MaxInt} {
		d := newDisk(t, 1)
		mustArm(t, d, n, 0, api.OK)
		for i := range 1000 {
			mustWrite(t, d, 0, counted(i), api.OK)
		}
		checkState(t, d, true, 1000)
	}
}

// P7.2: Arm, Power, On, Writes, Copy.

func TestArmErrors(t *testing.T) {
	check := func(d *disk.Disk) {
		t.Helper()
		for _, keep := range notKeeps {
			for _, n := range []int{0, 1, 5, -1, math.MaxInt, math.MinInt} {
				mustArm(t, d, n, keep, api.ErrRange)
			}
		}
		for _, n := range []int{-1, -2, -256, math.MinInt} {
			for _, keep := range []int{0, 1, 64, 127, 128} {
				mustArm(t, d, n, keep, api.ErrRange)
			}
		}
	}
	d := newDisk(t, 1)
	check(d)
	// None of these was installed.
	for i := range 10 {
		mustWrite(t, d, 0, counted(i), api.OK)
	}
	// And none replaces or removes another one.
	mustArm(t, d, 1, 3, api.OK)
	check(d)
	mustWrite(t, d, 0, counted(1), api.OK)
	check(d)
	checkState(t, d, true, 11)
	mustWrite(t, d, 0, counted(2), api.ErrDown)
	check(d)
	checkState(t, d, false, 12)
	d.Power()
	checkBlock(t, d, 0, tornBytes(counted(2), 3))
}

func TestArmReplacesAFuse(t *testing.T) {
	cases := []struct{ n, keep, used, n2, keep2 int }{
		{0, 5, 0, 2, 9},
		{2, 9, 0, 0, 5},
		{3, 1, 2, 3, 1},
		{3, 1, 2, 3, 128},
		{3, 128, 3, 0, 0},
		{3, 0, 3, 5, 127},
		{0, 0, 0, 0, 128},
		{0, 128, 0, 0, 0},
	}
	for _, c := range cases {
		d := newDisk(t, 1)
		mustArm(t, d, c.n, c.keep, api.OK)
		for range c.used {
			mustWrite(t, d, 0, filled(1), api.OK)
		}
		mustArm(t, d, c.n2, c.keep2, api.OK)
		for range c.n2 {
			mustWrite(t, d, 0, filled(2), api.OK)
		}
		mustWrite(t, d, 0, counted(1), api.ErrDown)
		checkState(t, d, false, c.used+c.n2+1)
		d.Power()
		checkBlock(t, d, 0, tornBytes(counted(1), c.keep2))
		// The first one does not come back.
		for range c.n + c.n2 + 3 {
			mustWrite(t, d, 0, filled(3), api.OK)
		}
	}
}

func TestArmWhileOff(t *testing.T) {
	d := newDisk(t, 1)
	mustArm(t, d, 0, 0, api.OK)
	mustWrite(t, d, 0, filled(1), api.ErrDown)
	mustArm(t, d, 0, 4, api.OK)
	mustWrite(t, d, 0, filled(1), api.ErrDown)
	checkState(t, d, false, 1)
	// Power removes this fuse as well.
	d.Power()
	checkState(t, d, true, 1)
	checkBlock(t, d, 0, filled(255))
	for i := range 5 {
		mustWrite(t, d, 0, counted(i), api.OK)
	}
	// One that is armed afterwards stays.
	mustArm(t, d, 0, 4, api.OK)
	mustWrite(t, d, 0, counted(1), api.ErrDown)
	d.Power()
	checkBlock(t, d, 0, tornBytes(counted(1), 4))
}

func TestPowerWhileOn(t *testing.T) {
	d := newDisk(t, 2)
	d.Power()
	checkState(t, d, true, 0)
	mustWrite(t, d, 0, counted(1), api.OK)
	d.Power()
	d.Power()
	checkState(t, d, true, 1)
	checkBlock(t, d, 0, counted(1))
	checkBlock(t, d, 1, filled(0))
	// With a fuse: it is removed.
	for n := range 3 {
		mustArm(t, d, n, 0, api.OK)
		d.Power()
		for i := range n + 3 {
			mustWrite(t, d, 1, counted(i), api.OK)
		}
	}
}

func TestPowerAgainAndAgain(t *testing.T) {
	d := newDisk(t, 2)
	for i := range 20 {
		mustArm(t, d, 1, i, api.OK)
		mustWrite(t, d, 0, counted(i), api.OK)
		mustWrite(t, d, 1, counted(i), api.ErrDown)
		checkState(t, d, false, 2*i+2)
		d.Power()
		d.Power()
		checkState(t, d, true, 2*i+2)
		checkBlock(t, d, 0, counted(i))
		checkBlock(t, d, 1, tornBytes(counted(i), i))
	}
}

func TestCopyOfADisk(t *testing.T) {
	for _, blocks := range []int{1, 3, maxBlocks} {
		d := newDisk(t, blocks)
		for i := range blocks {
			mustWrite(t, d, i, counted(i), api.OK)
		}
		c := d.Copy()
		if c == nil || c == d || c.Len() != blocks {
			t.Fatal(c)
		}
		checkState(t, c, true, blocks)
		for i := range blocks {
			checkBlock(t, c, i, counted(i))
		}
		checkNoBlock(t, c, blocks, api.ErrRange)
		// No fuse came with it.
		for range 5 {
			mustWrite(t, c, 0, filled(1), api.OK)
		}
	}
}

func TestCopyIsIndependent(t *testing.T) {
	d := newDisk(t, 2)
	mustWrite(t, d, 0, counted(1), api.OK)
	c := d.Copy()
	mustWrite(t, d, 0, filled(1), api.OK)
	mustWrite(t, c, 1, filled(2), api.OK)
	mustWrite(t, c, 1, filled(3), api.OK)
	checkBlock(t, d, 0, filled(1))
	checkBlock(t, d, 1, filled(0))
	checkState(t, d, true, 2)
	checkBlock(t, c, 0, counted(1))
	checkBlock(t, c, 1, filled(3))
	checkState(t, c, true, 3)

	mustArm(t, d, 0, 0, api.OK)
	mustWrite(t, c, 0, filled(4), api.OK)
	mustWrite(t, d, 0, filled(5), api.ErrDown)
	checkState(t, d, false, 3)
	checkState(t, c, true, 4)
	checkBlock(t, c, 0, filled(4))

	mustArm(t, c, 0, 9, api.OK)
	d.Power()
	mustWrite(t, d, 0, filled(6), api.OK)
	mustWrite(t, c, 0, filled(7), api.ErrDown)
	checkState(t, d, true, 4)
	checkState(t, c, false, 5)
	checkBlock(t, d, 0, filled(6))
	c.Power()
	checkBlock(t, c, 0, tornBytes(filled(7), 9))
	checkBlock(t, d, 0, filled(6))
}

func TestCopyHasTheFuse(t *testing.T) {
	for n := range 4 {
		for _, keep := range []int{0, 1, 77, 128} {
			for used := range n + 1 {
				d := newDisk(t, 1)
				mustArm(t, d, n, keep, api.OK)
				for range used {
					mustWrite(t, d, 0, filled(1), api.OK)
				}
				// Each of them has as many writes left, whatever the others do.
				for _, each := range []*disk.Disk{d.Copy(), d.Copy().Copy(), d} {
					for range n - used {
						mustWrite(t, each, 0, filled(2), api.OK)
					}
					mustWrite(t, each, 0, counted(1), api.ErrDown)
					checkState(t, each, false, n+1)
					each.Power()
					checkBlock(t, each, 0, tornBytes(counted(1), keep))
				}
			}
		}
	}
}

func TestCopyWhoseFuseIsRemoved(t *testing.T) {
	d := newDisk(t, 1)
	mustArm(t, d, 0, 5, api.OK)
	c := d.Copy()
	c.Power()
	mustWrite(t, c, 0, filled(1), api.OK)
	mustWrite(t, d, 0, filled(1), api.ErrDown)
	d = newDisk(t, 1)
	mustArm(t, d, 0, 5, api.OK)
	c = d.Copy()
	d.Power()
	mustWrite(t, d, 0, filled(1), api.OK)
	mustWrite(t, c, 0, filled(1), api.ErrDown)
}

func TestCopyOfADiskThatIsOff(t *testing.T) {
	d := newDisk(t, 2)
	mustWrite(t, d, 1, counted(1), api.OK)
	mustArm(t, d, 0, 3, api.OK)
	mustWrite(t, d, 0, counted(1), api.ErrDown)
	c := d.Copy()
	checkState(t, c, false, 2)
	if c.Len() != 2 {
		t.Fatal(c.Len())
	}
	checkNoBlock(t, c, 0, api.ErrDown)
	mustWrite(t, c, 0, filled(1), api.ErrDown)
	c.Power()
	checkState(t, c, true, 2)
	checkState(t, d, false, 2)
	checkBlock(t, c, 0, tornBytes(counted(1), 3))
	checkBlock(t, c, 1, counted(1))
	d.Power()
	mustWrite(t, d, 0, filled(1), api.OK)
	checkBlock(t, c, 0, tornBytes(counted(1), 3))
}

// P7.3: nil.

// checkInvalid tells that the methods of a disk return what the chapter has for nil.
func checkInvalid(t *testing.T, d *disk.Disk) {
	t.Helper()
	for range 2 {
		for _, i := range []int{0, 1, -1, math.MaxInt} {
			mustWrite(t, d, i, filled(1), api.ErrNil)
			mustWrite(t, d, i, nil, api.ErrNil)
			checkNoBlock(t, d, i, api.ErrNil)
			for _, keep := range []int{0, 128, -1, 129} {
				mustArm(t, d, i, keep, api.ErrNil)
			}
		}
		checkState(t, d, false, 0)
		if n := d.Len(); n != 0 {
			t.Fatalf("Len() = %d", n)
		}
		if c := d.Copy(); c != nil {
			t.Fatalf("Copy() = %v", c)
		}
		d.Power()
	}
}

func TestNilDisk(t *testing.T) { checkInvalid(t, nil) }

func TestDiskThatNewDidNotReturn(t *testing.T) { checkInvalid(t, new(disk.Disk)) }

// P7.4: a block keeps what was written to it, and no other one is affected.

// written is a plain disk: all writes that there were, in their order.
type written struct {
	blocks int
	log    []entry
	on     bool
	// tears is which write the fuse tears, counted from 0, and keep how much of it is left.
	armed       bool
	tears, keep int
}

type entry struct {
	i int
	b []byte
}

func (w *written) write(i int, b []byte) api.Errno {
	switch {
	case i < 0 || i >= w.blocks:
		return api.ErrRange
	case len(b) != blockSize:
		return api.ErrArg
	case !w.on:
		return api.ErrDown
	case w.armed && w.tears == len(w.log):
		w.log = append(w.log, entry{i, tornBytes(b, w.keep)})
		w.on, w.armed = false, false
		return api.ErrDown
	}
	w.log = append(w.log, entry{i, slices.Clone(b)})
	return api.OK
}

func (w *written) read(i int) ([]byte, api.Errno) {
	if i < 0 || i >= w.blocks {
		return nil, api.ErrRange
	}
	if !w.on {
		return nil, api.ErrDown
	}
	for _, e := range slices.Backward(w.log) {
		if e.i == i {
			return e.b, api.OK
		}
	}
	return filled(0), api.OK
}

func (w *written) arm(n, keep int) api.Errno {
	if n < 0 || keep < 0 || keep > blockSize {
		return api.ErrRange
	}
	w.armed, w.tears, w.keep = true, len(w.log)+n, keep
	return api.OK
}

func (w *written) power() { w.on, w.armed = true, false }

func (w *written) copied() *written {
	c := *w
	c.log = slices.Clone(w.log)
	return &c
}

// pair is a disk, and the plain one that has had the same calls.
type pair struct {
	d *disk.Disk
	w *written
}

// checkPair holds both against each other, at every block.
func checkPair(t *testing.T, p pair) {
	t.Helper()
	checkState(t, p.d, p.w.on, len(p.w.log))
	for i := -1; i <= p.w.blocks; i++ {
		b, e := p.d.Read(i)
		want, wantErr := p.w.read(i)
		if !bytes.Equal(b, want) || e != wantErr {
			t.Fatalf("Read(%d) = %v, %v, want %v, %v", i, b, e, want, wantErr)
		}
	}
}

// doMixed makes one call of any kind, mostly of a write.
func doMixed(t *testing.T, next func(below int) int, p pair) {
	t.Helper()
	switch next(8) {
	case 0:
		n, keep := next(8)-1, next(blockSize+3)-1
		mustArm(t, p.d, n, keep, p.w.arm(n, keep))
	case 1:
		p.d.Power()
		p.w.power()
	default:
		i, size := next(p.w.blocks+2)-1, blockSize
		if next(10) == 0 {
			size = next(2 * blockSize)
		}
		b := mixedBytes(next, size)
		want := p.w.write(i, b)
		mustWrite(t, p.d, i, b, want)
	}
}

func TestDisksByAllTheirWrites(t *testing.T) {
	next := mixed()
	for range 300 {
		blocks := 1 + next(6)
		pairs := []pair{{newDisk(t, blocks), &written{blocks: blocks, on: true}}}
		for range 60 {
			p := pairs[next(len(pairs))]
			if next(20) == 0 {
				pairs = append(pairs, pair{p.d.Copy(), p.w.copied()})
				continue
			}
			doMixed(t, next, p)
			checkPair(t, p)
		}
		for _, p := range pairs {
			checkPair(t, p)
			p.d.Power()
			p.w.power()
			checkPair(t, p)
		}
	}
}

func TestWritesLeaveAllOtherBlocks(t *testing.T) {
	const blocks = 20
	next := mixed()
	for at := range blocks {
		d := newDisk(t, blocks)
		var all [][]byte
		for i := range blocks {
			all = append(all, mixedBytes(next, blockSize))
			mustWrite(t, d, i, all[i], api.OK)
		}
		for range 10 {
			all[at] = mixedBytes(next, blockSize)
			mustWrite(t, d, at, all[at], api.OK)
			for i, b := range all {
				checkBlock(t, d, i, b)
			}
		}
	}
}

// P7.5: a torn write changes only its block, whose last byte is then 255, unless keep is 128.

func TestTornWritesLeaveAllOtherBlocks(t *testing.T) {
	const blocks = 5
	for keep := range blockSize + 1 {
		for at := range blocks {
			d := newDisk(t, blocks)
			for i := range blocks {
				mustWrite(t, d, i, counted(10*i), api.OK)
			}
			mustArm(t, d, 0, keep, api.OK)
			mustWrite(t, d, at, filled(1), api.ErrDown)
			d.Power()
			for i := range blocks {
				if i != at {
					checkBlock(t, d, i, counted(10*i))
				}
			}
			checkBlock(t, d, at, tornBytes(filled(1), keep))
		}
	}
}

func TestLastByteOfATornBlock(t *testing.T) {
	for keep := range blockSize + 1 {
		for last := range 256 {
			d := newDisk(t, 1)
			mustArm(t, d, 0, keep, api.OK)
			mustWrite(t, d, 0, filled(byte(last)), api.ErrDown)
			d.Power()
			want := byte(255)
			if keep == blockSize {
				want = byte(last)
			}
			if b, e := d.Read(0); e != api.OK || b[blockSize-1] != want {
				t.Fatalf("keep %d: %v, %v, want %d at last", keep, b, e, want)
			}
		}
	}
}
