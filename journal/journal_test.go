package journal_test

import (
	"bytes"
	"fmt"
	"math"
	"slices"
	"testing"

	"forepeak/api"
	"forepeak/disk"
	"forepeak/frame"
	"forepeak/journal"
)

const (
	blockSize  = 128
	maxBlocks  = 1024
	maxPayload = 112
	maxRoom    = 64
	maxGen     = 1<<31 - 1
)

// Where a frame has its payload, and the length of it.
const (
	lengthAt  = 7
	payloadAt = 8
)

// gens are generations, those at the ends of their range among them.
var gens = []int{0, 1, 2, 255, 256, 65535, 65536, 1 << 24, 0x12345678, maxGen - 1, maxGen}

// notGens are not.
var notGens = []int{-1, -2, -256, -maxGen - 1, -maxGen, maxGen + 1, maxGen + 2, 1<<32 - 1, 1 << 32, 1<<32 + 1, math.MaxInt, math.MinInt, math.MinInt + 1}

// notRooms are numbers of entries for which a journal cannot have room.
var notRooms = []int{0, -1, -2, -64, 65, 66, 128, 256, 256 + 1, 65536 + 1, math.MaxInt32, math.MaxInt, math.MaxInt/2 + 1, math.MaxInt/2 + 2, math.MinInt, math.MinInt/2 + 1}

// notLengths are numbers of bytes that no step has.
var notLengths = []int{113, 114, 120, 127, 128, 255, 256, 257, 256 + 112, 65536, 65537, 1 << 20}

// mixed returns a source of numbers that look like any, the same ones in each run.
func mixed() func(below int) int {
	x := uint64(1)
	return func(below int) int {
		x = x*6364136223846793005 + 1442695040888963407
		return int(x>>33) % below
	}
}

// mixedBytes are any bytes.
func mixedBytes(next func(below int) int, n int) []byte {
	b := make([]byte, n)
	for i := range b {
		b[i] = byte(next(256))
	}
	return b
}

// counted are so many bytes from 1 on, none of them 0.
func counted(n int) []byte {
	b := make([]byte, n)
	for i := range b {
		b[i] = byte(i%255 + 1)
	}
	return b
}

// filled is a block of one byte.
func filled(c byte) []byte { return bytes.Repeat([]byte{c}, blockSize) }

// texts are texts as steps.
func texts(all ...string) [][]byte {
	var b [][]byte
	for _, s := range all {
		b = append(b, []byte(s))
	}
	return b
}

// numbered are so many different steps.
func numbered(n int) [][]byte {
	var b [][]byte
	for k := range n {
		b = append(b, fmt.Appendf(nil, "step %d", k))
	}
	return b
}

// framed is a frame.
func framed(kind byte, gen, seq int, b []byte) []byte {
	block, e := frame.Write(kind, gen, seq, b)
	if e != api.OK {
		panic(e)
	}
	return block
}

// tornBytes is what a block has after a torn write of bytes.
func tornBytes(b []byte, keep int) []byte {
	return append(slices.Clone(b[:keep]), bytes.Repeat([]byte{255}, blockSize-keep)...)
}

// sameSteps tells whether there are the same steps in two lists.
func sameSteps(a, b [][]byte) bool { return slices.EqualFunc(a, b, bytes.Equal) }

// newDisk is a disk of so many blocks.
func newDisk(t *testing.T, blocks int) *disk.Disk {
	t.Helper()
	d, e := disk.New(blocks)
	if d == nil || e != api.OK {
		t.Fatalf("disk.New(%d) = %v, %v", blocks, d, e)
	}
	return d
}

// newJournal is a journal on a disk.
func newJournal(t *testing.T, d *disk.Disk, from, room int) *journal.Journal {
	t.Helper()
	j, e := journal.New(d, from, room)
	if j == nil || e != api.OK {
		t.Fatalf("New(disk of %d, %d, %d) = %v, %v", d.Len(), from, room, j, e)
	}
	return j
}

// put writes blocks to a disk, from one on.
func put(t *testing.T, d *disk.Disk, from int, blocks ...[]byte) {
	t.Helper()
	for i, b := range blocks {
		if e := d.Write(from+i, b); e != api.OK {
			t.Fatalf("disk.Write(%d) = %v", from+i, e)
		}
	}
}

// putEntries writes committed entries of steps to a disk, from a block on.
func putEntries(t *testing.T, d *disk.Disk, from, gen int, steps ...[]byte) {
	t.Helper()
	for k, b := range steps {
		put(t, d, from+2*k, framed(frame.Record, gen, k, b), framed(frame.Commit, gen, k, nil))
	}
}

// blocksOf is what all blocks of a disk have. A disk that is off is read by way of a copy that is on.
func blocksOf(t *testing.T, d *disk.Disk) [][]byte {
	t.Helper()
	d = d.Copy()
	d.Power()
	var all [][]byte
	for i := range d.Len() {
		b, e := d.Read(i)
		if e != api.OK {
			t.Fatalf("disk.Read(%d) = %v", i, e)
		}
		all = append(all, b)
	}
	return all
}

// checkBlocks holds all blocks of a disk against others.
func checkBlocks(t *testing.T, what any, d *disk.Disk, want [][]byte) {
	t.Helper()
	for i, b := range blocksOf(t, d) {
		if !bytes.Equal(b, want[i]) {
			t.Fatalf("%v: block %d became %v, want %v", what, i, b, want[i])
		}
	}
}

// checkState holds what a journal tells of itself against something else.
func checkState(t *testing.T, what any, j *journal.Journal, n, room, gen int) {
	t.Helper()
	if j.Len() != n || j.Room() != room || j.Gen() != gen {
		t.Fatalf("%v: Len() = %d, Room() = %d, Gen() = %d, want %d, %d, %d", what, j.Len(), j.Room(), j.Gen(), n, room, gen)
	}
}

// checkOpen opens a journal and holds its steps against others.
func checkOpen(t *testing.T, what any, j *journal.Journal, gen int, want [][]byte) {
	t.Helper()
	room := j.Room()
	if steps, e := j.Open(gen); !sameSteps(steps, want) || e != api.OK {
		t.Fatalf("%v: Open(%d) = %v, %v, want %v, OK", what, gen, steps, e, want)
	}
	checkState(t, what, j, len(want), room, gen)
}

// checkNotOpen tells that a journal cannot be opened, that nothing is returned beside the error, and that nothing is changed.
func checkNotOpen(t *testing.T, what any, j *journal.Journal, gen int, want api.Errno) {
	t.Helper()
	n, room, was := j.Len(), j.Room(), j.Gen()
	if steps, e := j.Open(gen); len(steps) != 0 || e != want {
		t.Fatalf("%v: Open(%d) = %v, %v, want none, %v", what, gen, steps, e, want)
	}
	checkState(t, what, j, n, room, was)
}

// checkAdd adds a step, and holds the error and the number of entries against the ones that are to be.
func checkAdd(t *testing.T, what any, j *journal.Journal, b []byte, want api.Errno) {
	t.Helper()
	n, room, gen := j.Len(), j.Room(), j.Gen()
	if e := j.Add(b); e != want {
		t.Fatalf("%v: Add of %d bytes = %v, want %v", what, len(b), e, want)
	}
	if want == api.OK {
		n++
	}
	checkState(t, what, j, n, room, gen)
}

// checkClean cleans a journal, which changes nothing that it tells of itself.
func checkClean(t *testing.T, what any, j *journal.Journal, want api.Errno) {
	t.Helper()
	n, room, gen := j.Len(), j.Room(), j.Gen()
	if e := j.Clean(); e != want {
		t.Fatalf("%v: Clean() = %v, want %v", what, e, want)
	}
	checkState(t, what, j, n, room, gen)
}

// checkWrites holds the number of a disk's writes against another one.
func checkWrites(t *testing.T, what any, d *disk.Disk, want int) {
	t.Helper()
	if n := d.Writes(); n != want {
		t.Fatalf("%v: %d writes, want %d", what, n, want)
	}
}

// addAll adds steps.
func addAll(t *testing.T, j *journal.Journal, steps ...[]byte) {
	t.Helper()
	for k, b := range steps {
		checkAdd(t, k, j, b, api.OK)
	}
}

// arm sets a disk's fuse.
func arm(t *testing.T, d *disk.Disk, n, keep int) {
	t.Helper()
	if e := d.Arm(n, keep); e != api.OK {
		t.Fatalf("disk.Arm(%d, %d) = %v", n, keep, e)
	}
}

// turnOff turns a disk off, by a write to a block that is torn behind its last byte, so that the block stays as it is.
func turnOff(t *testing.T, d *disk.Disk) {
	t.Helper()
	b := blocksOf(t, d)[0]
	arm(t, d, 0, blockSize)
	if e := d.Write(0, b); e != api.ErrDown || d.On() {
		t.Fatalf("disk.Write = %v, on = %v", e, d.On())
	}
}

// P9.1: New.

func TestNewOfEachPlace(t *testing.T) {
	for _, blocks := range []int{1, 2, 3, 4, 5, 7, 8, 127, 128, 129, 130, maxBlocks} {
		d := newDisk(t, blocks)
		for from := -3; from <= blocks+3; from++ {
			for room := -2; room <= maxRoom+3; room++ {
				fits := room >= 1 && room <= maxRoom && from >= 0 && from+2*room <= blocks
				j, e := journal.New(d, from, room)
				if !fits {
					if j != nil || e != api.ErrRange {
						t.Fatalf("New(disk of %d, %d, %d) = %v, %v, want none, ErrRange", blocks, from, room, j, e)
					}
					continue
				}
				if j == nil || e != api.OK {
					t.Fatalf("New(disk of %d, %d, %d) = %v, %v, want OK", blocks, from, room, j, e)
				}
				checkState(t, "new", j, 0, room, 0)
			}
		}
		checkWrites(t, blocks, d, 0)
	}
}

func TestNewOfGreatNumbers(t *testing.T) {
	d := newDisk(t, maxBlocks)
	great := []int{math.MaxInt, math.MaxInt - 1, math.MaxInt - 2, math.MaxInt - 127, math.MaxInt - 128, math.MaxInt32, 1 << 32, 65536, 1025, 1024, 1023, -1, -2, -128, -1024, math.MinInt, math.MinInt + 1, math.MinInt + 128}
	for _, from := range great {
		for room := 1; room <= maxRoom; room++ {
			if j, e := journal.New(d, from, room); j != nil || e != api.ErrRange {
				t.Fatalf("New(disk, %d, %d) = %v, %v, want none, ErrRange", from, room, j, e)
			}
		}
	}
	for _, room := range notRooms {
		for _, from := range append([]int{0, 1, 500, 896, 1022}, great...) {
			if j, e := journal.New(d, from, room); j != nil || e != api.ErrRange {
				t.Fatalf("New(disk, %d, %d) = %v, %v, want none, ErrRange", from, room, j, e)
			}
		}
	}
}

func TestNewErrorsInTheirOrder(t *testing.T) {
	for _, from := range []int{0, 1, -1, 1024, math.MaxInt, math.MinInt} {
		for _, room := range append([]int{1, 2, 64}, notRooms...) {
			if j, e := journal.New(nil, from, room); j != nil || e != api.ErrNil {
				t.Fatalf("New(nil, %d, %d) = %v, %v, want none, ErrNil", from, room, j, e)
			}
		}
	}
}

// A disk that New of its package did not return is not nil, but has no blocks.
func TestNewOnADiskOfNoBlocks(t *testing.T) {
	for _, room := range []int{0, 1, 64} {
		if j, e := journal.New(new(disk.Disk), 0, room); j != nil || e != api.ErrRange {
			t.Fatalf("New(disk of 0, 0, %d) = %v, %v, want none, ErrRange", room, j, e)
		}
	}
}

// Whatever is on the disk, a new journal regards no entry as committed, and changes nothing.
func TestNewRegardsNoEntryAsCommitted(t *testing.T) {
	for _, gen := range []int{0, 1, maxGen} {
		d := newDisk(t, 8)
		putEntries(t, d, 0, gen, texts("a", "b", "c", "d")...)
		before := blocksOf(t, d)
		j := newJournal(t, d, 0, 4)
		checkState(t, gen, j, 0, 4, 0)
		checkBlocks(t, gen, d, before)
		checkWrites(t, gen, d, 8)
		// Its first entry is the one that is written next.
		checkAdd(t, gen, j, []byte("x"), api.OK)
		before[0], before[1] = framed(frame.Record, 0, 0, []byte("x")), framed(frame.Commit, 0, 0, nil)
		checkBlocks(t, gen, d, before)
	}
}

func TestNewOnADiskThatIsOff(t *testing.T) {
	d := newDisk(t, 4)
	putEntries(t, d, 0, 0, texts("a")...)
	turnOff(t, d)
	j := newJournal(t, d, 0, 2)
	checkState(t, "off", j, 0, 2, 0)
	checkNotOpen(t, "off", j, 0, api.ErrDown)
	d.Power()
	checkOpen(t, "on", j, 0, texts("a"))
}

// P9.1: Open.

func TestOpenOfAnEmptyDisk(t *testing.T) {
	for _, room := range []int{1, 2, 63, 64} {
		d := newDisk(t, 2*room)
		j := newJournal(t, d, 0, room)
		for _, gen := range gens {
			checkOpen(t, room, j, gen, nil)
		}
		checkWrites(t, room, d, 0)
	}
}

func TestOpenOfEachNumberOfEntries(t *testing.T) {
	for _, room := range []int{1, 2, 3, 17, 64} {
		for _, gen := range gens {
			for n := range room + 1 {
				d := newDisk(t, 2*room)
				putEntries(t, d, 0, gen, numbered(n)...)
				before := blocksOf(t, d)
				checkOpen(t, n, newJournal(t, d, 0, room), gen, numbered(n))
				checkBlocks(t, n, d, before)
				checkWrites(t, n, d, 2*n)
			}
		}
	}
}

func TestOpenOfEachPlace(t *testing.T) {
	const blocks = 140
	for _, room := range []int{1, 2, 5, 64} {
		for from := range blocks - 2*room + 1 {
			d := newDisk(t, blocks)
			putEntries(t, d, from, 3, numbered(room)...)
			checkOpen(t, from, newJournal(t, d, from, room), 3, numbered(room))
		}
	}
	d := newDisk(t, maxBlocks)
	putEntries(t, d, maxBlocks-2*maxRoom, 3, numbered(maxRoom)...)
	checkOpen(t, "at the end", newJournal(t, d, maxBlocks-2*maxRoom, maxRoom), 3, numbered(maxRoom))
	checkOpen(t, "its last one", newJournal(t, d, maxBlocks-2, 1), 3, nil)
	putEntries(t, d, maxBlocks-2, 3, texts("z")...)
	checkOpen(t, "its last one", newJournal(t, d, maxBlocks-2, 1), 3, texts("z"))
}

func TestOpenOfEachLength(t *testing.T) {
	next := mixed()
	for n := range maxPayload + 1 {
		d := newDisk(t, 8)
		// Zeros at the end of a step belong to it.
		steps := [][]byte{make([]byte, n), counted(n), bytes.Repeat([]byte{255}, n), mixedBytes(next, n)}
		putEntries(t, d, 0, 1, steps...)
		checkOpen(t, n, newJournal(t, d, 0, 4), 1, steps)
	}
}

// What follows the journal's last block, or comes before its first one, does not belong to it.
func TestOpenKeepsToItsBlocks(t *testing.T) {
	d := newDisk(t, 20)
	putEntries(t, d, 0, 1, numbered(10)...)
	for room := 1; room <= 10; room++ {
		checkOpen(t, room, newJournal(t, d, 0, room), 1, numbered(room))
	}
	// From another block on, the numbers are not those of the entries.
	for from := 1; from < 19; from++ {
		checkOpen(t, from, newJournal(t, d, from, 1), 1, nil)
	}
	d = newDisk(t, 12)
	putEntries(t, d, 4, 1, texts("a", "b", "c", "d")...)
	checkOpen(t, "in the middle", newJournal(t, d, 4, 2), 1, texts("a", "b"))
	checkOpen(t, "before", newJournal(t, d, 2, 5), 1, nil)
	checkOpen(t, "one before", newJournal(t, d, 3, 2), 1, nil)
}

func TestOpenOfAnotherGeneration(t *testing.T) {
	for _, has := range gens {
		d := newDisk(t, 6)
		putEntries(t, d, 0, has, texts("a", "b")...)
		j := newJournal(t, d, 0, 3)
		for _, asked := range gens {
			if asked == has {
				checkOpen(t, has, j, asked, texts("a", "b"))
				continue
			}
			checkOpen(t, has, j, asked, nil)
		}
	}
}

// Where one block of an entry is of another generation, the steps end.
func TestOpenEndsWhereTheGenerationEnds(t *testing.T) {
	for k := range 4 {
		for i := range 2 {
			d := newDisk(t, 8)
			putEntries(t, d, 0, 5, numbered(4)...)
			step := [][]byte{numbered(4)[k], nil}[i]
			kind := []byte{frame.Record, frame.Commit}[i]
			put(t, d, 2*k+i, framed(kind, 6, k, step))
			j := newJournal(t, d, 0, 4)
			checkOpen(t, []int{k, i}, j, 5, numbered(k))
			checkOpen(t, []int{k, i}, j, 6, nil)
			put(t, d, 2*k+i, framed(kind, 5, k, step))
			checkOpen(t, []int{k, i}, j, 5, numbered(4))
		}
	}
}

// notEntries are pairs of blocks that are not entry k, committed in a generation, with a step.
func notEntries(gen, k int, b []byte) map[string][2][]byte {
	record, commit := framed(frame.Record, gen, k, b), framed(frame.Commit, gen, k, nil)
	return map[string][2][]byte{
		"no blocks":                   {filled(0), filled(0)},
		"no record":                   {filled(0), commit},
		"no commit":                   {record, filled(0)},
		"lost":                        {filled(255), filled(255)},
		"record lost":                 {filled(255), commit},
		"commit lost":                 {record, filled(255)},
		"commit first":                {commit, record},
		"two records":                 {record, record},
		"two commits":                 {commit, commit},
		"record of another kind":      {framed(frame.Head, gen, k, b), commit},
		"record as commit":            {framed(frame.Commit, gen, k, b), commit},
		"commit of another kind":      {record, framed(frame.Head, gen, k, nil)},
		"commit as record":            {record, framed(frame.Record, gen, k, nil)},
		"record of the next number":   {framed(frame.Record, gen, k+1, b), commit},
		"commit of the next number":   {record, framed(frame.Commit, gen, k+1, nil)},
		"both of the next number":     {framed(frame.Record, gen, k+1, b), framed(frame.Commit, gen, k+1, nil)},
		"both of number 256 more":     {framed(frame.Record, gen, k+256, b), framed(frame.Commit, gen, k+256, nil)},
		"record of the block's":       {framed(frame.Record, gen, 2*k+64, b), commit},
		"commit of number 65535":      {record, framed(frame.Commit, gen, 65535, nil)},
		"record of another gen":       {framed(frame.Record, gen+1, k, b), commit},
		"commit of another gen":       {record, framed(frame.Commit, gen+1, k, nil)},
		"both of another gen":         {framed(frame.Record, gen+1, k, b), framed(frame.Commit, gen+1, k, nil)},
		"both of gen 0":               {framed(frame.Record, 0, k, b), framed(frame.Commit, 0, k, nil)},
		"commit with a payload":       {record, framed(frame.Commit, gen, k, []byte{0})},
		"commit with the step":        {record, framed(frame.Commit, gen, k, []byte("the step"))},
		"commit with a great payload": {record, framed(frame.Commit, gen, k, make([]byte, maxPayload))},
		"record torn":                 {tornBytes(record, 124), commit},
		"commit torn":                 {record, tornBytes(commit, 124)},
		"commit torn at its end":      {record, tornBytes(commit, 127)},
	}
}

func TestOpenEndsWithTheFirstEntryThatIsNotCommitted(t *testing.T) {
	const gen, room = 7, 5
	for k := range room {
		for what, blocks := range notEntries(gen, k, numbered(room)[k]) {
			d := newDisk(t, 2*room)
			putEntries(t, d, 0, gen, numbered(room)...)
			put(t, d, 2*k, blocks[0], blocks[1])
			before := blocksOf(t, d)
			checkOpen(t, what, newJournal(t, d, 0, room), gen, numbered(k))
			checkBlocks(t, what, d, before)
		}
	}
}

// Whichever byte of an entry is another one, the entry is not committed.
func TestOpenOfEachByteReplaced(t *testing.T) {
	d := newDisk(t, 6)
	putEntries(t, d, 0, 1, numbered(3)...)
	j := newJournal(t, d, 0, 3)
	for i, b := range blocksOf(t, d) {
		for at := range b {
			for _, by := range []byte{b[at] + 1, b[at] ^ 128, b[at] - 1} {
				changed := slices.Clone(b)
				changed[at] = by
				put(t, d, i, changed)
				checkOpen(t, []int{i, at}, j, 1, numbered(i/2))
			}
		}
		put(t, d, i, b)
	}
	checkOpen(t, "whole", j, 1, numbered(3))
}

func TestOpenAgain(t *testing.T) {
	d := newDisk(t, 8)
	putEntries(t, d, 0, 1, texts("a", "b", "c")...)
	j := newJournal(t, d, 0, 4)
	checkOpen(t, "first", j, 1, texts("a", "b", "c"))
	checkOpen(t, "again", j, 1, texts("a", "b", "c"))
	checkOpen(t, "another generation", j, 2, nil)
	checkOpen(t, "and back", j, 1, texts("a", "b", "c"))
	// What is regarded as committed is what was on the disk at the time.
	put(t, d, 3, filled(0))
	checkState(t, "as it was", j, 3, 4, 1)
	checkOpen(t, "fewer", j, 1, texts("a"))
	put(t, d, 3, framed(frame.Commit, 1, 1, nil))
	checkOpen(t, "more", j, 1, texts("a", "b", "c"))
}

func TestOpenErrors(t *testing.T) {
	d := newDisk(t, 4)
	putEntries(t, d, 0, 9, texts("a")...)
	j := newJournal(t, d, 0, 2)
	for _, gen := range notGens {
		checkNotOpen(t, "new", j, gen, api.ErrRange)
	}
	checkOpen(t, "open", j, 9, texts("a"))
	for _, gen := range notGens {
		checkNotOpen(t, "open", j, gen, api.ErrRange)
	}
	turnOff(t, d)
	for _, gen := range gens {
		checkNotOpen(t, "off", j, gen, api.ErrDown)
	}
	// The generation is told before the disk.
	for _, gen := range notGens {
		checkNotOpen(t, "off", j, gen, api.ErrRange)
	}
	checkState(t, "off", j, 1, 2, 9)
	d.Power()
	checkOpen(t, "on", j, 9, texts("a"))
	checkWrites(t, "open", d, 3)
}

// The steps are the caller's: neither the disk nor one another has a part of them.
func TestOpenReturnsNewMemory(t *testing.T) {
	d := newDisk(t, 10)
	steps := [][]byte{counted(112), nil, counted(1), counted(60), counted(111)}
	putEntries(t, d, 0, 1, steps...)
	before := blocksOf(t, d)
	j := newJournal(t, d, 0, 5)
	one, _ := j.Open(1)
	two, _ := j.Open(1)
	for k, b := range one {
		if cap(b) != len(b) {
			t.Fatalf("step %d has a capacity of %d", k, cap(b))
		}
		clear(b)
		_ = append(b, filled(9)...)
		one[k] = nil
	}
	if !sameSteps(two, steps) {
		t.Fatalf("the steps of another call became %v", two)
	}
	for k, b := range two {
		clear(b)
		if k+1 < len(two) && !bytes.Equal(two[k+1], steps[k+1]) {
			t.Fatalf("step %d shares memory with step %d", k, k+1)
		}
	}
	checkBlocks(t, "cleared", d, before)
	checkState(t, "cleared", j, 5, 5, 1)
	checkOpen(t, "again", j, 1, steps)
}

// P9.1: Clean.

// A journal that isn't full loses what stands behind its steps, and nothing else.
func TestCleanOfEachNumberOfEntries(t *testing.T) {
	const room, from = 4, 3
	for n := range room + 1 {
		d := newDisk(t, from+2*room+3)
		for i := range d.Len() {
			put(t, d, i, counted(blockSize))
		}
		putEntries(t, d, from, 0, numbered(n)...)
		j := newJournal(t, d, from, room)
		checkOpen(t, n, j, 0, numbered(n))
		writes, want := d.Writes(), blocksOf(t, d)
		checkClean(t, n, j, api.OK)
		if n < room {
			want[from+2*n], want[from+2*n+1] = filled(0), filled(0)
			writes += 2
		}
		checkBlocks(t, n, d, want)
		checkWrites(t, n, d, writes)
		checkOpen(t, n, j, 0, numbered(n))
	}
}

func TestCleanOfAFullJournal(t *testing.T) {
	for _, room := range []int{1, 2, 64} {
		d := newDisk(t, 2*room+2)
		j := newJournal(t, d, 0, room)
		addAll(t, j, numbered(room)...)
		put(t, d, 2*room, filled(7), filled(8))
		before := blocksOf(t, d)
		checkClean(t, "on", j, api.OK)
		checkBlocks(t, "on", d, before)
		checkWrites(t, "on", d, 2*room+2)
		// A full journal has nothing to be cleaned, even on a disk that is off, and no fuse is used up.
		arm(t, d, 0, 0)
		checkClean(t, "armed", j, api.OK)
		if e := d.Write(2*room, filled(1)); e != api.ErrDown {
			t.Fatal(e)
		}
		checkClean(t, "off", j, api.OK)
		before[2*room] = filled(255)
		checkBlocks(t, "off", d, before)
		checkWrites(t, "off", d, 2*room+3)
	}
}

// A step in progress is removed, and with it the entries behind it no longer count.
func TestCleanRemovesAStepInProgress(t *testing.T) {
	d := newDisk(t, 8)
	j := newJournal(t, d, 0, 4)
	addAll(t, j, texts("a", "b")...)
	arm(t, d, 1, blockSize)
	checkAdd(t, "torn behind its end", j, []byte("c"), api.ErrDown)
	d.Power()
	checkClean(t, "not opened", j, api.OK)
	checkOpen(t, "cleaned", j, 0, texts("a", "b"))
	checkAdd(t, "cleaned", j, []byte("d"), api.OK)
	checkOpen(t, "added", j, 0, texts("a", "b", "d"))
}

// A new journal regards no entry as committed: its Clean overwrites the first one.
func TestCleanOfANewJournal(t *testing.T) {
	for _, gen := range []int{0, 5} {
		d := newDisk(t, 6)
		putEntries(t, d, 0, gen, texts("a", "b", "c")...)
		want := blocksOf(t, d)
		want[0], want[1] = filled(0), filled(0)
		j := newJournal(t, d, 0, 3)
		checkClean(t, gen, j, api.OK)
		checkBlocks(t, gen, d, want)
		checkOpen(t, gen, j, gen, nil)
	}
}

func TestCleanTwice(t *testing.T) {
	d := newDisk(t, 6)
	putEntries(t, d, 0, 2, texts("a")...)
	put(t, d, 2, filled(1), filled(2), filled(3), filled(4))
	j := newJournal(t, d, 0, 3)
	checkOpen(t, "first", j, 2, texts("a"))
	want := blocksOf(t, d)
	want[2], want[3] = filled(0), filled(0)
	for i := range 3 {
		checkClean(t, i, j, api.OK)
		checkBlocks(t, i, d, want)
		checkWrites(t, i, d, 6+2*(i+1))
	}
}

func TestCleanOfADiskThatIsOff(t *testing.T) {
	d := newDisk(t, 4)
	j := newJournal(t, d, 0, 2)
	addAll(t, j, []byte("a"))
	put(t, d, 2, filled(1), filled(2))
	turnOff(t, d)
	before, writes := blocksOf(t, d), d.Writes()
	checkClean(t, "off", j, api.ErrDown)
	checkBlocks(t, "off", d, before)
	checkWrites(t, "off", d, writes)
	d.Power()
	before[2], before[3] = filled(0), filled(0)
	checkClean(t, "on", j, api.OK)
	checkBlocks(t, "on", d, before)
}

// A Clean that is torn has written the record first.
func TestCleanThatIsTorn(t *testing.T) {
	for n := range 3 {
		for keep := range blockSize + 1 {
			d := newDisk(t, 6)
			put(t, d, 4, filled(1), filled(2))
			j := newJournal(t, d, 0, 3)
			addAll(t, j, texts("a", "b")...)
			want := blocksOf(t, d)
			arm(t, d, n, keep)
			switch n {
			case 0:
				checkClean(t, keep, j, api.ErrDown)
				want[4] = tornBytes(filled(0), keep)
			case 1:
				checkClean(t, keep, j, api.ErrDown)
				want[4], want[5] = filled(0), tornBytes(filled(0), keep)
			case 2:
				checkClean(t, keep, j, api.OK)
				want[4], want[5] = filled(0), filled(0)
			}
			checkBlocks(t, []int{n, keep}, d, want)
			checkWrites(t, []int{n, keep}, d, 6+min(n+1, 2))
			d.Power()
			checkOpen(t, []int{n, keep}, j, 0, texts("a", "b"))
			checkClean(t, []int{n, keep}, j, api.OK)
			want[4], want[5] = filled(0), filled(0)
			checkBlocks(t, []int{n, keep}, d, want)
		}
	}
}

// P9.2: Add, Len, Room, Gen.

func TestAddOfTheExample(t *testing.T) {
	d := newDisk(t, 4)
	j := newJournal(t, d, 0, 2)
	checkAdd(t, "x", j, []byte("x"), api.OK)
	arm(t, d, 1, 0)
	checkAdd(t, "y", j, []byte("y"), api.ErrDown)
	checkBlocks(t, "torn", d, [][]byte{framed(frame.Record, 0, 0, []byte("x")), framed(frame.Commit, 0, 0, nil), framed(frame.Record, 0, 1, []byte("y")), filled(255)})
	checkNotOpen(t, "off", j, 0, api.ErrDown)
	d.Power()
	checkOpen(t, "on", j, 0, texts("x"))
	// The same by another journal, as after a restart.
	checkOpen(t, "another", newJournal(t, d, 0, 2), 0, texts("x"))
	checkAdd(t, "again", j, []byte("y"), api.OK)
	checkOpen(t, "again", j, 0, texts("x", "y"))
}

// Each step is written behind the ones before it, and nothing else is.
func TestAddWritesARecordAndACommit(t *testing.T) {
	for _, gen := range gens {
		for _, room := range []int{1, 2, 5, 64} {
			from := room % 3
			d := newDisk(t, from+2*room+1)
			for i := range d.Len() {
				put(t, d, i, filled(9))
			}
			j := newJournal(t, d, from, room)
			checkOpen(t, room, j, gen, nil)
			want, writes := blocksOf(t, d), d.Writes()
			for k, b := range numbered(room) {
				checkState(t, k, j, k, room, gen)
				checkAdd(t, k, j, b, api.OK)
				want[from+2*k], want[from+2*k+1] = framed(frame.Record, gen, k, b), framed(frame.Commit, gen, k, nil)
				checkBlocks(t, k, d, want)
				checkWrites(t, k, d, writes+2*(k+1))
			}
			checkAdd(t, "full", j, nil, api.ErrFull)
			checkBlocks(t, "full", d, want)
			checkOpen(t, room, j, gen, numbered(room))
		}
	}
}

func TestAddOfEachLength(t *testing.T) {
	next := mixed()
	for n := range maxPayload + 1 {
		d := newDisk(t, 8)
		j := newJournal(t, d, 0, 4)
		steps := [][]byte{make([]byte, n), counted(n), bytes.Repeat([]byte{255}, n), mixedBytes(next, n)}
		addAll(t, j, steps...)
		checkOpen(t, n, j, 0, steps)
	}
}

func TestAddOfANilStep(t *testing.T) {
	for _, b := range [][]byte{nil, {}, counted(5)[:0]} {
		d := newDisk(t, 4)
		j := newJournal(t, d, 0, 2)
		addAll(t, j, b, b)
		empty := framed(frame.Record, 0, 0, nil)
		checkBlocks(t, "empty", d, [][]byte{empty, framed(frame.Commit, 0, 0, nil), framed(frame.Record, 0, 1, nil), framed(frame.Commit, 0, 1, nil)})
		checkOpen(t, "empty", j, 0, [][]byte{nil, nil})
	}
}

func TestAddOfTooManyBytes(t *testing.T) {
	d := newDisk(t, 4)
	j := newJournal(t, d, 0, 2)
	checkAdd(t, "first", j, []byte("a"), api.OK)
	before := blocksOf(t, d)
	for _, n := range notLengths {
		checkAdd(t, n, j, make([]byte, n), api.ErrMany)
	}
	checkBlocks(t, "too many", d, before)
	checkWrites(t, "too many", d, 2)
	checkOpen(t, "too many", j, 0, texts("a"))
	checkAdd(t, "as many as may be", j, counted(maxPayload), api.OK)
}

func TestAddToAFullJournal(t *testing.T) {
	for _, room := range []int{1, 2, 64} {
		d := newDisk(t, 2*room+2)
		put(t, d, 2*room, filled(7), filled(8))
		j := newJournal(t, d, 0, room)
		addAll(t, j, numbered(room)...)
		before := blocksOf(t, d)
		for _, n := range []int{0, 1, 112} {
			checkAdd(t, room, j, counted(n), api.ErrFull)
		}
		checkBlocks(t, room, d, before)
		checkWrites(t, room, d, 2*room+2)
		checkState(t, room, j, room, room, 0)
		checkOpen(t, room, j, 0, numbered(room))
		// In another generation it is empty.
		checkOpen(t, room, j, 1, nil)
		checkAdd(t, room, j, []byte("x"), api.OK)
		checkOpen(t, room, j, 1, texts("x"))
		// That has overwritten the first entry.
		checkOpen(t, room, j, 0, nil)
	}
}

func TestAddErrorsInTheirOrder(t *testing.T) {
	d := newDisk(t, 4)
	j := newJournal(t, d, 0, 2)
	addAll(t, j, []byte("a"))
	turnOff(t, d)
	before := blocksOf(t, d)
	writes := d.Writes()
	checkAdd(t, "off", j, []byte("b"), api.ErrDown)
	checkAdd(t, "off", j, nil, api.ErrDown)
	for _, n := range notLengths {
		checkAdd(t, "off, too many", j, make([]byte, n), api.ErrMany)
	}
	checkBlocks(t, "off", d, before)
	checkWrites(t, "off", d, writes)
	d.Power()
	addAll(t, j, []byte("b"))
	for _, n := range append([]int{0, 1, 112}, notLengths...) {
		checkAdd(t, "full", j, make([]byte, n), api.ErrFull)
	}
	turnOff(t, d)
	for _, n := range append([]int{0, 1, 112}, notLengths...) {
		checkAdd(t, "full, off", j, make([]byte, n), api.ErrFull)
	}
	d.Power()
	checkOpen(t, "on", j, 0, texts("a", "b"))
}

// An Add that is torn leaves the journal without the entry, as often as it is torn.
func TestAddThatIsTorn(t *testing.T) {
	for n := range 3 {
		for keep := range blockSize + 1 {
			what := []int{n, keep}
			d := newDisk(t, 6)
			put(t, d, 2, filled(1), filled(2), filled(3), filled(4))
			j := newJournal(t, d, 0, 3)
			addAll(t, j, []byte("a"))
			want := blocksOf(t, d)
			record, commit := framed(frame.Record, 0, 1, []byte("bc")), framed(frame.Commit, 0, 1, nil)
			arm(t, d, n, keep)
			switch n {
			case 0:
				checkAdd(t, what, j, []byte("bc"), api.ErrDown)
				want[2] = tornBytes(record, keep)
			case 1:
				checkAdd(t, what, j, []byte("bc"), api.ErrDown)
				want[2], want[3] = record, tornBytes(commit, keep)
			case 2:
				checkAdd(t, what, j, []byte("bc"), api.OK)
				want[2], want[3] = record, commit
			}
			checkBlocks(t, what, d, want)
			checkWrites(t, what, d, 6+min(n+1, 2))
			if n == 2 {
				continue
			}
			checkAdd(t, what, j, []byte("d"), api.ErrDown)
			d.Power()
			checkState(t, what, j, 1, 3, 0)
			// The journal goes on where it was, and overwrites what was torn.
			checkAdd(t, what, j, []byte("d"), api.OK)
			want[2], want[3] = framed(frame.Record, 0, 1, []byte("d")), commit
			checkBlocks(t, what, d, want)
			checkOpen(t, what, j, 0, texts("a", "d"))
		}
	}
}

func TestAddAfterOpen(t *testing.T) {
	for _, gen := range gens {
		d := newDisk(t, 10)
		putEntries(t, d, 0, gen, texts("a", "b")...)
		j := newJournal(t, d, 0, 5)
		checkOpen(t, gen, j, gen, texts("a", "b"))
		checkAdd(t, gen, j, []byte("c"), api.OK)
		checkOpen(t, gen, j, gen, texts("a", "b", "c"))
		checkAdd(t, gen, j, []byte("d"), api.OK)
		checkOpen(t, gen, newJournal(t, d, 0, 5), gen, texts("a", "b", "c", "d"))
	}
}

func TestAddAfterClean(t *testing.T) {
	d := newDisk(t, 8)
	putEntries(t, d, 0, 1, texts("a")...)
	put(t, d, 2, filled(1), filled(2), filled(3))
	j := newJournal(t, d, 0, 4)
	checkOpen(t, "first", j, 1, texts("a"))
	checkClean(t, "first", j, api.OK)
	checkAdd(t, "first", j, []byte("b"), api.OK)
	checkClean(t, "second", j, api.OK)
	checkOpen(t, "second", j, 1, texts("a", "b"))
	checkAdd(t, "second", j, []byte("c"), api.OK)
	checkOpen(t, "third", j, 1, texts("a", "b", "c"))
}

// What stands behind a step is left there: if it is the next entry, it counts.
func TestAddLeavesTheNextEntry(t *testing.T) {
	d := newDisk(t, 8)
	putEntries(t, d, 0, 0, texts("a", "b", "c")...)
	j := newJournal(t, d, 0, 4)
	checkAdd(t, "over a", j, []byte("x"), api.OK)
	checkState(t, "over a", j, 1, 4, 0)
	checkOpen(t, "over a", j, 0, texts("x", "b", "c"))
	j = newJournal(t, d, 0, 4)
	checkAdd(t, "over x", j, []byte("y"), api.OK)
	checkClean(t, "over b", j, api.OK)
	checkOpen(t, "over b", j, 0, texts("y"))
}

func TestAddLeavesItsArgument(t *testing.T) {
	for n := range maxPayload + 1 {
		// Behind the step there is more memory of the caller's.
		around := counted(300)
		b := around[100 : 100+n]
		want := slices.Clone(b)
		d := newDisk(t, 4)
		j := newJournal(t, d, 0, 2)
		checkAdd(t, n, j, b, api.OK)
		if !bytes.Equal(around, counted(300)) {
			t.Fatalf("%d bytes: they became %v", n, around)
		}
		clear(around)
		checkOpen(t, n, j, 0, [][]byte{want})
		checkBlocks(t, n, d, [][]byte{framed(frame.Record, 0, 0, want), framed(frame.Commit, 0, 0, nil), filled(0), filled(0)})
	}
}

// Two journals on a disk, used one after the other, leave each other's blocks.
func TestTwoJournalsOnADisk(t *testing.T) {
	d := newDisk(t, 13)
	one, two := newJournal(t, d, 1, 3), newJournal(t, d, 7, 3)
	checkOpen(t, "two", two, 4, nil)
	for k := range 3 {
		checkAdd(t, k, one, fmt.Append(nil, "one ", k), api.OK)
		checkAdd(t, k, two, fmt.Append(nil, "two ", k), api.OK)
		checkClean(t, k, one, api.OK)
		checkClean(t, k, two, api.OK)
	}
	checkOpen(t, "one", one, 0, texts("one 0", "one 1", "one 2"))
	checkOpen(t, "two", two, 4, texts("two 0", "two 1", "two 2"))
	if b := blocksOf(t, d)[0]; !bytes.Equal(b, filled(0)) {
		t.Fatalf("the block before them became %v", b)
	}
}

// P9.3: nil.

func TestInvalidJournals(t *testing.T) {
	for _, j := range []*journal.Journal{nil, new(journal.Journal), {}} {
		for range 2 {
			for _, gen := range append([]int{0, 1, maxGen}, notGens...) {
				if steps, e := j.Open(gen); steps != nil || e != api.ErrNil {
					t.Fatalf("Open(%d) = %v, %v, want nil, ErrNil", gen, steps, e)
				}
			}
			if e := j.Clean(); e != api.ErrNil {
				t.Fatalf("Clean() = %v, want ErrNil", e)
			}
			for _, n := range []int{0, 1, 112, 113, 200} {
				if e := j.Add(make([]byte, n)); e != api.ErrNil {
					t.Fatalf("Add of %d bytes = %v, want ErrNil", n, e)
				}
			}
			if e := j.Add(nil); e != api.ErrNil {
				t.Fatalf("Add of nil = %v, want ErrNil", e)
			}
			checkState(t, "invalid", j, 0, 0, 0)
		}
	}
}

// P9.4: what holds after any fuse.

// Open returns what was added, and the step in progress only if its commit is whole.
func TestEachFuse(t *testing.T) {
	const room = 3
	steps := [][]byte{counted(5), nil, counted(maxPayload)}
	for n := range 2*room + 2 {
		for keep := range blockSize + 1 {
			what := []int{n, keep}
			d := newDisk(t, 2*room+1)
			j := newJournal(t, d, 1, room)
			checkOpen(t, what, j, 8, nil)
			arm(t, d, n, keep)
			answered := 0
			for answered < room && j.Add(steps[answered]) == api.OK {
				answered++
			}
			if answered != min(n/2, room) || j.Len() != answered {
				t.Fatalf("%v: %d steps were added, Len() = %d", what, answered, j.Len())
			}
			d.Power()
			want := answered
			if n%2 == 1 && keep == blockSize && n < 2*room {
				want++
			}
			restarted := newJournal(t, d, 1, room)
			checkOpen(t, what, restarted, 8, steps[:want])
			checkOpen(t, what, j, 8, steps[:want])
			checkOpen(t, what, restarted, 7, nil)
		}
	}
}

// The same where the steps of an earlier generation stand on the disk: none of them comes back.
func TestEachFuseOverAnEarlierGeneration(t *testing.T) {
	const room = 3
	for n := range 2*room + 2 {
		for keep := range blockSize + 1 {
			what := []int{n, keep}
			d := newDisk(t, 2*room)
			putEntries(t, d, 0, 1, texts("a", "b", "c")...)
			j := newJournal(t, d, 0, room)
			checkOpen(t, what, j, 2, nil)
			arm(t, d, n, keep)
			answered := 0
			for answered < room && j.Add(numbered(room)[answered]) == api.OK {
				answered++
			}
			d.Power()
			want := answered
			if n%2 == 1 && keep == blockSize && n < 2*room {
				want++
			}
			checkOpen(t, what, newJournal(t, d, 0, room), 2, numbered(room)[:want])
		}
	}
}

// Whatever is in the entry that is cleaned, and wherever that is torn, the committed steps stay.
func TestEachFuseOfClean(t *testing.T) {
	const room = 3
	for n := range room + 1 {
		for writes := range 3 {
			for keep := range blockSize + 1 {
				what := []int{n, writes, keep}
				d := newDisk(t, 2*room)
				j := newJournal(t, d, 0, room)
				addAll(t, j, numbered(n)...)
				if n < room {
					put(t, d, 2*n, framed(frame.Record, 0, n, []byte("in progress")), tornBytes(framed(frame.Commit, 0, n, nil), 100))
				}
				arm(t, d, writes, keep)
				e := j.Clean()
				if torn := n < room && writes < 2; torn != (e == api.ErrDown) {
					t.Fatalf("%v: Clean() = %v", what, e)
				}
				d.Power()
				checkOpen(t, what, newJournal(t, d, 0, room), 0, numbered(n))
			}
		}
	}
}

// A step in progress whose commit is whole is removed by Clean as soon as the first of its writes is torn or done.
func TestEachFuseOfCleanOverAWholeStep(t *testing.T) {
	for writes := range 3 {
		for keep := range blockSize + 1 {
			what := []int{writes, keep}
			d := newDisk(t, 6)
			j := newJournal(t, d, 0, 3)
			addAll(t, j, []byte("a"))
			arm(t, d, 1, blockSize)
			checkAdd(t, what, j, []byte("in progress"), api.ErrDown)
			d.Power()
			checkOpen(t, what, newJournal(t, d, 0, 3), 0, texts("a", "in progress"))
			arm(t, d, writes, keep)
			want := api.ErrDown
			if writes == 2 {
				want = api.OK
			}
			checkClean(t, what, j, want)
			d.Power()
			checkOpen(t, what, newJournal(t, d, 0, 3), 0, texts("a"))
		}
	}
}

// The whole, against a model.

// modelDisk is a disk by its chapter.
type modelDisk struct {
	blocks     [][]byte
	on, armed  bool
	left, keep int
}

// write writes a block, or tears it.
func (d *modelDisk) write(i int, b []byte) api.Errno {
	if !d.on {
		return api.ErrDown
	}
	if d.armed && d.left == 0 {
		d.blocks[i] = tornBytes(b, d.keep)
		d.on, d.armed = false, false
		return api.ErrDown
	}
	d.left--
	d.blocks[i] = b
	return api.OK
}

// modelJournal is a journal by the chapter.
type modelJournal struct {
	d                *modelDisk
	from, room, n, g int
}

// step is the step of entry k, if it is committed on the disk: its blocks are the frames that such an entry has.
func (m *modelJournal) step(k int) ([]byte, bool) {
	record, commit := m.d.blocks[m.from+2*k], m.d.blocks[m.from+2*k+1]
	length := int(record[lengthAt])
	if length > maxPayload {
		return nil, false
	}
	b := record[payloadAt : payloadAt+length]
	return b, bytes.Equal(record, framed(frame.Record, m.g, k, b)) && bytes.Equal(commit, framed(frame.Commit, m.g, k, nil))
}

// open returns the committed steps.
func (m *modelJournal) open(gen int) ([][]byte, api.Errno) {
	if gen < 0 || gen > maxGen {
		return nil, api.ErrRange
	}
	if !m.d.on {
		return nil, api.ErrDown
	}
	m.g, m.n = gen, 0
	var steps [][]byte
	for m.n < m.room {
		b, ok := m.step(m.n)
		if !ok {
			break
		}
		steps = append(steps, b)
		m.n++
	}
	return steps, api.OK
}

// both writes the blocks of the next entry.
func (m *modelJournal) both(record, commit []byte) api.Errno {
	if e := m.d.write(m.from+2*m.n, record); e != api.OK {
		return e
	}
	return m.d.write(m.from+2*m.n+1, commit)
}

// clean overwrites the next entry.
func (m *modelJournal) clean() api.Errno {
	if m.n == m.room {
		return api.OK
	}
	return m.both(filled(0), filled(0))
}

// add adds a step.
func (m *modelJournal) add(b []byte) api.Errno {
	if m.n == m.room {
		return api.ErrFull
	}
	if len(b) > maxPayload {
		return api.ErrMany
	}
	e := m.both(framed(frame.Record, m.g, m.n, b), framed(frame.Commit, m.g, m.n, nil))
	if e == api.OK {
		m.n++
	}
	return e
}

// machine is a disk with some journals, and the model of both. Two of the journals share blocks.
type machine struct {
	d    *disk.Disk
	m    *modelDisk
	js   []*journal.Journal
	ms   []*modelJournal
	next func(below int) int
}

// newMachine is a new machine.
func newMachine(t *testing.T, next func(below int) int) *machine {
	const blocks = 24
	x := &machine{d: newDisk(t, blocks), m: &modelDisk{on: true}, next: next}
	for range blocks {
		x.m.blocks = append(x.m.blocks, filled(0))
	}
	for _, at := range [][2]int{{0, 4}, {8, 1}, {10, 7}, {10, 7}} {
		x.js = append(x.js, newJournal(t, x.d, at[0], at[1]))
		x.ms = append(x.ms, &modelJournal{d: x.m, from: at[0], room: at[1]})
	}
	return x
}

// call does any one thing on the machine and on the model, and holds the results against each other.
func (x *machine) call(t *testing.T, what int) {
	t.Helper()
	i := x.next(len(x.js))
	j, m := x.js[i], x.ms[i]
	switch x.next(12) {
	case 0, 1, 2, 3, 4:
		b := mixedBytes(x.next, x.next(maxPayload+4))
		if e, want := j.Add(b), m.add(b); e != want {
			t.Fatalf("call %d: Add of %d bytes = %v, want %v", what, len(b), e, want)
		}
	case 5:
		if e, want := j.Clean(), m.clean(); e != want {
			t.Fatalf("call %d: Clean() = %v, want %v", what, e, want)
		}
	case 6, 7:
		gen := x.next(4) - 1
		steps, e := j.Open(gen)
		if want, f := m.open(gen); !sameSteps(steps, want) || e != f {
			t.Fatalf("call %d: Open(%d) = %v, %v, want %v, %v", what, gen, steps, e, want, f)
		}
	case 8:
		n, keep := x.next(8), x.next(blockSize+1)
		if x.next(3) == 0 {
			keep = blockSize
		}
		arm(t, x.d, n, keep)
		x.m.armed, x.m.left, x.m.keep = true, n, keep
	case 9, 10:
		x.d.Power()
		x.m.on, x.m.armed = true, false
	case 11:
		at, b := x.next(len(x.m.blocks)), mixedBytes(x.next, blockSize)
		if e, want := x.d.Write(at, b), x.m.write(at, b); e != want {
			t.Fatalf("call %d: disk.Write(%d) = %v, want %v", what, at, e, want)
		}
	}
	checkState(t, what, j, m.n, m.room, m.g)
}

func TestMixedCalls(t *testing.T) {
	next := mixed()
	for range 60 {
		x := newMachine(t, next)
		for what := range 300 {
			x.call(t, what)
			if x.d.On() != x.m.on {
				t.Fatalf("call %d: the disk is on: %v", what, x.d.On())
			}
			checkBlocks(t, what, x.d, x.m.blocks)
		}
	}
}

// The results depend on the calls alone: the same calls give the same ones.
func TestMixedCallsTwice(t *testing.T) {
	var all [2][][]byte
	for i := range all {
		x := newMachine(t, mixed())
		for what := range 500 {
			x.call(t, what)
		}
		all[i] = blocksOf(t, x.d)
	}
	if !sameSteps(all[0], all[1]) {
		t.Fatal("the same calls have left other blocks")
	}
}
