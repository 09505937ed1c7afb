package disk_test

import (
	"bytes"
	"math"
	"testing"

	"encore/api"
	"encore/disk"
)

// full is a sector of one byte's value.
func full(c byte) []byte { return bytes.Repeat([]byte{c}, api.Sector) }

// over is a sector with the first k bytes of another one over it.
func over(before, written []byte, k int) []byte {
	return append(bytes.Clone(written[:k]), before[k:]...)
}

// fresh is a new disk of so many sectors.
func fresh(t *testing.T, sectors int) *disk.Disk {
	t.Helper()
	d, e := disk.New(sectors)
	if d == nil || e != api.OK {
		t.Fatalf("New(%d): %v, %d", sectors, d, e)
	}
	return d
}

// ok is for calls that must succeed.
func ok(t *testing.T, errors ...api.Errno) {
	t.Helper()
	for i, e := range errors {
		if e != api.OK {
			t.Fatalf("call %d: %d", i, e)
		}
	}
}

// read is what a sector contains.
func read(t *testing.T, d *disk.Disk, at int) []byte {
	t.Helper()
	b, e := d.Read(at)
	if e != api.OK || len(b) != api.Sector {
		t.Fatalf("Read(%d): %x, %d", at, b, e)
	}
	return b
}

func contains(t *testing.T, d *disk.Disk, at int, want []byte) {
	t.Helper()
	if b := read(t, d, at); !bytes.Equal(b, want) {
		t.Errorf("sector %d: %x, not %x", at, b, want)
	}
}

// all is what each sector contains.
func all(t *testing.T, d *disk.Disk) [][]byte {
	t.Helper()
	var l [][]byte
	for at := range d.Size() {
		l = append(l, read(t, d, at))
	}
	return l
}

func equal(a, b [][]byte) bool {
	return bytes.Equal(bytes.Join(a, nil), bytes.Join(b, nil))
}

// state holds what a disk tells of itself against what is wanted.
func state(t *testing.T, d *disk.Disk, dead bool, waits int) {
	t.Helper()
	if d.Dead() != dead || d.Waits() != waits {
		t.Errorf("dead %t, %d waiting, not %t, %d", d.Dead(), d.Waits(), dead, waits)
	}
}

func TestExamples(t *testing.T) {
	one, two := full(1), full(2)
	for _, c := range []struct {
		bits uint64
		cut  int
		want []byte
	}{{0, 0, one}, {1, 64, two}, {1, 3, over(one, two, 3)}} {
		d := fresh(t, 1)
		ok(t, d.Write(0, one), d.Flush(), d.Write(0, two), d.Crash(c.bits, c.cut), d.Boot())
		contains(t, d, 0, c.want)
	}
}

// P3.1: how many sectors there may be, and what a new disk is.
func TestNew(t *testing.T) {
	for _, n := range []int{math.MinInt, -513, -1, 0, 513, 1024, 1 << 32, math.MaxInt} {
		if d, e := disk.New(n); d != nil || e != api.ErrRange {
			t.Errorf("New(%d): %v, %d", n, d, e)
		}
	}
	for n := 1; n <= api.MaxSectors; n++ {
		d := fresh(t, n)
		state(t, d, false, 0)
		if d.Size() != n {
			t.Errorf("New(%d): %d sectors", n, d.Size())
		}
		for _, b := range all(t, d) {
			if !bytes.Equal(b, full(0)) {
				t.Fatalf("New(%d): %x", n, b)
			}
		}
	}
}

// P3.1: a disk that is none, before and after calls that would change one.
func TestNilAndZeroDisks(t *testing.T) {
	for name, d := range map[string]*disk.Disk{"nil": nil, "zero": {}} {
		for range 2 {
			for call, e := range map[string]api.Errno{
				"Write":              d.Write(0, full(1)),
				"Write nowhere":      d.Write(-1, nil),
				"Flush":              d.Flush(),
				"Fail":               d.Fail(0, 1, 1),
				"Fail cancelled":     d.Fail(-1, 1, 1),
				"Crash":              d.Crash(1, 1),
				"Boot":               d.Boot(),
				"Write after a Boot": d.Write(0, full(1)),
			} {
				if e != api.ErrNil {
					t.Errorf("%s disk, %s: %d", name, call, e)
				}
			}
			for _, at := range []int{-1, 0, 1} {
				if b, e := d.Read(at); len(b) > 0 || e != api.ErrNil {
					t.Errorf("%s disk, Read(%d): %x, %d", name, at, b, e)
				}
			}
			if d.Size() != 0 || d.Waits() != 0 || d.Dead() {
				t.Errorf("%s disk: %d sectors, %d waiting, dead %t", name, d.Size(), d.Waits(), d.Dead())
			}
		}
	}
}

// P3.1: Waits counts writes, not sectors; Size stays.
func TestWaits(t *testing.T) {
	d := fresh(t, 3)
	for i := range 200 {
		state(t, d, false, i)
		ok(t, d.Write(i%2, full(byte(i))))
	}
	ok(t, d.Flush())
	state(t, d, false, 0)
	ok(t, d.Write(2, full(0)))
	state(t, d, false, 1)
	ok(t, d.Crash(0, 0))
	state(t, d, true, 0)
	if d.Size() != 3 {
		t.Errorf("%d sectors", d.Size())
	}
	ok(t, d.Boot())
	state(t, d, false, 0)
}

// P3.2: whatever the other arguments are, a dead disk says that it is dead.
func TestDeadDisk(t *testing.T) {
	d := fresh(t, 2)
	ok(t, d.Write(0, full(7)), d.Flush(), d.Write(1, full(8)), d.Crash(0, 0))
	for _, at := range []int{math.MinInt, -1, 0, 1, 2, math.MaxInt} {
		for _, b := range [][]byte{nil, full(9)[:63], full(9)} {
			if e := d.Write(at, b); e != api.ErrDead {
				t.Errorf("Write(%d, %d bytes): %d", at, len(b), e)
			}
		}
		if b, e := d.Read(at); len(b) > 0 || e != api.ErrDead {
			t.Errorf("Read(%d): %x, %d", at, b, e)
		}
	}
	for _, n := range []int{-1, 0, 1} {
		if e := d.Fail(n, 1, 1); e != api.ErrDead {
			t.Errorf("Fail(%d): %d", n, e)
		}
	}
	if e, f := d.Flush(), d.Crash(1, 64); e != api.ErrDead || f != api.ErrDead {
		t.Errorf("Flush, Crash: %d, %d", e, f)
	}
	state(t, d, true, 0)
	ok(t, d.Boot())
	// What a dead disk refused has left nothing, not even a scheduled failure.
	contains(t, d, 0, full(7))
	contains(t, d, 1, full(0))
	ok(t, d.Flush(), d.Write(0, full(1)), d.Flush())
	state(t, d, false, 0)
}

// P3.2: a sector that is not there, and then bytes that are no sector.
func TestWriteAndReadErrors(t *testing.T) {
	for _, n := range []int{1, 2, 511, api.MaxSectors} {
		d := fresh(t, n)
		ok(t, d.Write(n-1, full(3)))
		before := all(t, d)
		for _, at := range []int{math.MinInt, -n, -1, n, n + 1, api.MaxSectors, math.MaxInt} {
			for _, b := range [][]byte{nil, {}, full(1)[:63], full(1), append(full(1), 1)} {
				if e := d.Write(at, b); e != api.ErrRange {
					t.Errorf("%d sectors, Write(%d, %d bytes): %d", n, at, len(b), e)
				}
			}
			if b, e := d.Read(at); len(b) > 0 || e != api.ErrRange {
				t.Errorf("%d sectors, Read(%d): %x, %d", n, at, b, e)
			}
		}
		for _, size := range []int{0, 1, 32, 63, 65, 128, 4096} {
			if e := d.Write(n-1, make([]byte, size)); e != api.ErrArg {
				t.Errorf("%d bytes: %d", size, e)
			}
		}
		state(t, d, false, 1)
		if !equal(all(t, d), before) {
			t.Errorf("%d sectors: an error has changed something", n)
		}
	}
}

// P3.2: a write is read at once, and durable once it is flushed.
func TestWriteReadFlush(t *testing.T) {
	d := fresh(t, api.MaxSectors)
	contents := func(i, round int) []byte {
		b := full(byte(i))
		b[0], b[1], b[63] = byte(i>>8), byte(round), byte(round)
		return b
	}
	for round := 1; round < 4; round++ {
		for i := range d.Size() {
			ok(t, d.Write(i, full(99)), d.Write(i, contents(i, round)))
		}
		for i := range d.Size() {
			contains(t, d, i, contents(i, round))
		}
		state(t, d, false, 2*d.Size())
		ok(t, d.Flush())
		state(t, d, false, 0)
		ok(t, d.Crash(math.MaxUint64, 64), d.Boot())
		for i := range d.Size() {
			contains(t, d, i, contents(i, round))
		}
	}
}

// P3.2: a flush of nothing, and one after another.
func TestFlushAgain(t *testing.T) {
	d := fresh(t, 2)
	ok(t, d.Flush(), d.Write(0, full(1)), d.Flush(), d.Flush())
	ok(t, d.Write(0, full(2)), d.Crash(0, 0), d.Boot(), d.Flush())
	contains(t, d, 0, full(1))
	contains(t, d, 1, full(0))
}

// P3.3: a crash ends it all: what did not survive is not read, and does not come back.
func TestCrashForgetsPendingWrites(t *testing.T) {
	d := fresh(t, 2)
	ok(t, d.Write(0, full(1)), d.Write(1, full(2)), d.Crash(1, 0))
	state(t, d, true, 0)
	ok(t, d.Boot())
	contains(t, d, 0, full(1))
	contains(t, d, 1, full(0))
	ok(t, d.Flush(), d.Crash(math.MaxUint64, 64), d.Boot())
	contains(t, d, 0, full(1))
	contains(t, d, 1, full(0))
}

// P3.3: bit i modulo 64 decides on the i-th pending write, and on no other one.
func TestBitsChooseWrites(t *testing.T) {
	const writes = 200
	choices := []uint64{0, math.MaxUint64, 0x5555555555555555, 0xaaaaaaaaaaaaaaaa, 0x0123456789abcdef}
	for i := range 64 {
		choices = append(choices, 1<<i, ^uint64(1<<i))
	}
	for _, bits := range choices {
		d := fresh(t, writes)
		for i := range writes {
			ok(t, d.Write(i, full(byte(i+1))))
		}
		ok(t, d.Crash(bits, 64), d.Boot())
		for i := range writes {
			want := full(0)
			if bits>>(i%64)&1 == 1 {
				want = full(byte(i + 1))
			}
			contains(t, d, i, want)
		}
	}
}

// P3.3: of several writes to one sector the last one that survives counts.
func TestSurvivingWritesAreApplied(t *testing.T) {
	for bits := range uint64(32) {
		d := fresh(t, 2)
		ok(t, d.Write(1, full(10)), d.Flush())
		want := full(10)
		for i := range 5 {
			ok(t, d.Write(1, full(byte(i+1))))
			if bits>>i&1 == 1 {
				want = full(byte(i + 1))
			}
		}
		ok(t, d.Crash(bits, 64), d.Boot())
		contains(t, d, 1, want)
		contains(t, d, 0, full(0))
	}
}

// cutsOf are cuts, each with the number of bytes that it stands for.
func cutsOf() map[int]int {
	m := map[int]int{65: 0, 66: 1, 129: 64, 130: 0, 6500: 0, 6501: 1, -1: 64, -2: 63, -64: 1, -65: 0, -66: 64, -130: 0}
	for k := range 65 {
		m[k] = k
	}
	// 2^12 is 1 modulo 65: 2^63 is 8.
	m[math.MaxInt], m[math.MinInt], m[math.MinInt+8] = 7, 65-8, 0
	return m
}

// P3.3: the cut tears the last pending write, if that one survives.
func TestCutTearsTheLastWrite(t *testing.T) {
	for cut, k := range cutsOf() {
		for bits := range uint64(8) {
			d := fresh(t, 3)
			ok(t, d.Write(0, full(10)), d.Write(1, full(11)), d.Write(2, full(12)), d.Flush())
			ok(t, d.Write(0, full(1)), d.Write(1, full(2)), d.Write(0, full(3)), d.Crash(bits, cut), d.Boot())
			zero, one := full(10), full(11)
			if bits&1 == 1 {
				zero = full(1)
			}
			if bits&2 == 2 {
				one = full(2)
			}
			if bits&4 == 4 {
				zero = over(zero, full(3), k)
			}
			contains(t, d, 0, zero)
			contains(t, d, 1, one)
			contains(t, d, 2, full(12))
		}
	}
}

// P3.3: the last write that survives is whole if it isn't the last pending one, and so are those that share its bit.
func TestOnlyTheLastPendingWriteIsTorn(t *testing.T) {
	d := fresh(t, 100)
	for i := range 66 {
		ok(t, d.Write(i, full(5)))
	}
	ok(t, d.Crash(2, 3), d.Boot())
	contains(t, d, 0, full(0))
	contains(t, d, 1, full(5))
	contains(t, d, 64, full(0))
	contains(t, d, 65, over(full(0), full(5), 3))
	ok(t, d.Write(2, full(6)), d.Write(3, full(6)), d.Crash(1, 3), d.Boot())
	contains(t, d, 2, full(6))
	contains(t, d, 3, full(0))
}

// operate is the i-th of operations of both kinds, write after write unless flushes are wanted.
func operate(d *disk.Disk, i int, flushes bool) api.Errno {
	if flushes && i%2 == 1 {
		return d.Flush()
	}
	return d.Write(i%d.Size(), full(byte(i+1)))
}

// P3.3: n operations are performed, and power is lost instead of the next one.
func TestFailAfterOperations(t *testing.T) {
	for n := range 70 {
		for _, flushes := range []bool{false, true} {
			d := fresh(t, 100)
			ok(t, d.Fail(n, 0, 0))
			for i := range n {
				ok(t, operate(d, i, flushes))
			}
			state(t, d, false, map[bool]int{false: n, true: n % 2}[flushes])
			if e := operate(d, n, flushes); e != api.ErrDead {
				t.Fatalf("%d operations and one more: %d", n, e)
			}
			state(t, d, true, 0)
			ok(t, d.Boot())
			for i := range d.Size() {
				want := full(0)
				// A flush behind it made it durable; where nothing was flushed, nothing is left.
				if flushes && i%2 == 0 && i+1 < n {
					want = full(byte(i + 1))
				}
				contains(t, d, i, want)
			}
		}
	}
}

// P3.3: the bits and the cut of Fail are those of the loss, whichever operation it replaces.
func TestFailHasParametersOfItsOwn(t *testing.T) {
	for cut, k := range cutsOf() {
		for name, last := range map[string]func(d *disk.Disk) api.Errno{
			"Flush": (*disk.Disk).Flush,
			"Write": func(d *disk.Disk) api.Errno { return d.Write(0, full(9)) },
		} {
			d := fresh(t, 4)
			ok(t, d.Fail(3, 6, cut), d.Write(0, full(1)), d.Write(1, full(2)), d.Write(2, full(3)))
			if e := last(d); e != api.ErrDead || !d.Dead() {
				t.Fatalf("%s: %d", name, e)
			}
			ok(t, d.Boot())
			contains(t, d, 0, full(0))
			contains(t, d, 1, full(2))
			contains(t, d, 2, over(full(0), full(3), k))
		}
	}
}

// P3.3: a write instead of which power is lost was never pending: the one before it is the last one, and torn.
func TestReplacedWriteIsNotPending(t *testing.T) {
	d := fresh(t, 2)
	ok(t, d.Fail(1, math.MaxUint64, 5), d.Write(0, full(1)))
	if e := d.Write(1, full(2)); e != api.ErrDead {
		t.Errorf("%d", e)
	}
	state(t, d, true, 0)
	ok(t, d.Boot())
	contains(t, d, 0, over(full(0), full(1), 5))
	contains(t, d, 1, full(0))
}

// P3.3: only operations count: no refused call, and no other one.
func TestFailCountsOnlyOperations(t *testing.T) {
	d := fresh(t, 2)
	ok(t, d.Fail(2, 0, 0))
	for range 5 {
		if e, f, g := d.Write(-1, full(1)), d.Write(2, nil), d.Write(0, full(1)[:63]); e != api.ErrRange || f != api.ErrRange || g != api.ErrArg {
			t.Fatalf("%d, %d, %d", e, f, g)
		}
		if _, e := d.Read(2); e != api.ErrRange {
			t.Fatalf("%d", e)
		}
		read(t, d, 0)
		state(t, d, false, 0)
	}
	ok(t, d.Write(0, full(1)), d.Flush())
	// Where power is to be lost next, a call that is refused anyway is no operation.
	if e, f := d.Write(2, full(1)), d.Write(0, nil); e != api.ErrRange || f != api.ErrArg || d.Dead() {
		t.Errorf("%d, %d, dead %t", e, f, d.Dead())
	}
	contains(t, d, 0, full(1))
	if e := d.Flush(); e != api.ErrDead {
		t.Errorf("%d", e)
	}
}

// P3.3: a later Fail takes the place of the one before it, or cancels it.
func TestFailAgain(t *testing.T) {
	for _, n := range []int{-1, -2, math.MinInt} {
		d := fresh(t, 1)
		ok(t, d.Fail(0, 0, 0), d.Fail(n, 0, 0))
		for range 1000 {
			ok(t, d.Write(0, full(1)), d.Flush())
		}
	}
	d := fresh(t, 1)
	ok(t, d.Fail(0, 0, 0), d.Fail(1, 1, 7), d.Write(0, full(1)))
	if e := d.Flush(); e != api.ErrDead {
		t.Errorf("%d", e)
	}
	ok(t, d.Boot())
	contains(t, d, 0, over(full(0), full(1), 7))
	ok(t, d.Fail(1, 0, 0), d.Fail(math.MaxInt, 0, 0))
	for range 1000 {
		ok(t, d.Write(0, full(1)), d.Flush())
	}
}

// P3.3: neither a Crash nor a failure that happened leaves one scheduled.
func TestPowerLossCancelsAFailure(t *testing.T) {
	for name, lose := range map[string]func(d *disk.Disk){
		"Crash": func(d *disk.Disk) { d.Fail(3, 0, 0); d.Crash(0, 0) },
		"Fail":  func(d *disk.Disk) { d.Fail(0, 0, 0); d.Flush() },
	} {
		d := fresh(t, 1)
		lose(d)
		if !d.Dead() {
			t.Fatalf("%s: not dead", name)
		}
		ok(t, d.Boot())
		for range 20 {
			ok(t, d.Write(0, full(1)), d.Flush())
		}
	}
}

// P3.3: Boot of a disk that is alive cancels a failure, and changes nothing else.
func TestBootOfALivingDisk(t *testing.T) {
	d := fresh(t, 2)
	ok(t, d.Write(0, full(1)), d.Flush(), d.Write(0, full(2)), d.Write(1, full(3)), d.Fail(0, 0, 0), d.Boot())
	state(t, d, false, 2)
	contains(t, d, 0, full(2))
	contains(t, d, 1, full(3))
	ok(t, d.Boot(), d.Write(1, full(4)))
	state(t, d, false, 3)
	ok(t, d.Crash(0, 0), d.Boot())
	contains(t, d, 0, full(1))
	contains(t, d, 1, full(0))
}

// P3.4: a written slice stays as it is, with what lies behind it, and belongs to the caller.
func TestArgumentsAreOnlyRead(t *testing.T) {
	d := fresh(t, 2)
	row := append(full(1), full(2)...)
	before := bytes.Clone(row)
	ok(t, d.Write(0, row[:64]), d.Write(1, row[:64]), d.Flush(), d.Write(1, row[:64]))
	ok(t, d.Crash(1, 64), d.Boot(), d.Write(1, row[:64]))
	if !bytes.Equal(row, before) {
		t.Errorf("%x", row)
	}
	clear(row)
	contains(t, d, 1, full(1))
	ok(t, d.Flush())
	contains(t, d, 0, full(1))
	contains(t, d, 1, full(1))
}

// P3.4: what is read belongs to the caller too, whether it is pending or durable.
func TestResultsAreNewMemory(t *testing.T) {
	d := fresh(t, 2)
	ok(t, d.Write(0, full(1)))
	for range 3 {
		for at := range 2 {
			first, second := read(t, d, at), read(t, d, at)
			want := bytes.Clone(second)
			_ = append(first[:10], full(7)...)
			clear(first)
			if !bytes.Equal(second, want) {
				t.Errorf("sector %d: two results share memory: %x", at, second)
			}
			contains(t, d, at, want)
		}
		ok(t, d.Flush())
	}
}

// P3.4: two disks have nothing in common.
func TestDisksAreApart(t *testing.T) {
	a, b := fresh(t, 2), fresh(t, 2)
	ok(t, a.Write(0, full(1)), a.Flush(), a.Write(1, full(2)), a.Fail(0, 0, 0))
	state(t, b, false, 0)
	contains(t, b, 0, full(0))
	contains(t, b, 1, full(0))
	ok(t, b.Write(0, full(3)), b.Flush(), b.Crash(0, 0))
	state(t, a, false, 1)
	contains(t, a, 0, full(1))
}

// chance is a row of numbers that look like nothing in particular.
type chance uint64

func (c *chance) next(n int) int { return int(c.bits() >> 33 % uint64(n)) }

func (c *chance) bits() uint64 {
	*c = *c*6364136223846793005 + 1442695040888963407
	// The upper bits are better than the lower ones: no bit of the result is made of the latter alone.
	return uint64(*c) ^ uint64(*c)>>29
}

func (c *chance) sector() []byte {
	b := make([]byte, api.Sector)
	for i := range b {
		b[i] = byte(c.bits() >> 40)
	}
	return b
}

// byDefinition is a disk as the chapter defines it: all writes are kept, and applied whenever something is read.
type byDefinition struct {
	durable   [][]byte
	at        []int
	b         [][]byte
	dead      bool
	scheduled bool
	left      int
	bits      uint64
	cut       int
}

func (m *byDefinition) contents() [][]byte {
	l := append([][]byte(nil), m.durable...)
	for i, at := range m.at {
		l[at] = m.b[i]
	}
	return l
}

func (m *byDefinition) lose(bits uint64, cut int) {
	for i, at := range m.at {
		if bits&(1<<(i%64)) == 0 {
			continue
		}
		k := 64
		if i == len(m.at)-1 {
			for k = cut; k < 0; k += 65 {
			}
			for ; k > 64; k -= 65 {
			}
		}
		m.durable[at] = over(m.durable[at], m.b[i], k)
	}
	m.at, m.b, m.dead, m.scheduled = nil, nil, true, false
}

// operation performs one, unless power is lost instead of it.
func (m *byDefinition) operation(perform func()) api.Errno {
	if m.dead {
		return api.ErrDead
	}
	if m.scheduled && m.left == 0 {
		m.lose(m.bits, m.cut)
		return api.ErrDead
	}
	m.left--
	perform()
	return api.OK
}

func (m *byDefinition) write(at int, b []byte) api.Errno {
	if !m.dead && (at < 0 || at >= len(m.durable)) {
		return api.ErrRange
	}
	if !m.dead && len(b) != 64 {
		return api.ErrArg
	}
	return m.operation(func() { m.at, m.b = append(m.at, at), append(m.b, b) })
}

func (m *byDefinition) flush() api.Errno {
	return m.operation(func() { m.durable, m.at, m.b = m.contents(), nil, nil })
}

func (m *byDefinition) crash(bits uint64, cut int) api.Errno {
	if m.dead {
		return api.ErrDead
	}
	m.lose(bits, cut)
	return api.OK
}

func (m *byDefinition) fail(n int, bits uint64, cut int) api.Errno {
	if m.dead {
		return api.ErrDead
	}
	m.scheduled, m.left, m.bits, m.cut = n >= 0, n, bits, cut
	return api.OK
}

// step does the same with both disks.
func step(c *chance, d *disk.Disk, m *byDefinition) (got, want api.Errno) {
	bits, cut := c.bits(), c.next(400)-200
	switch op := c.next(100); {
	case op < 60:
		at, b := c.next(d.Size()+2)-1, c.sector()[:64-max(0, c.next(20)-18)]
		return d.Write(at, b), m.write(at, b)
	case op < 70:
		return d.Flush(), m.flush()
	case op < 76:
		return d.Crash(bits, cut), m.crash(bits, cut)
	case op < 84:
		n := c.next(25) - 2
		return d.Fail(n, bits, cut), m.fail(n, bits, cut)
	case op < 98 && !m.dead:
		return api.OK, api.OK
	}
	m.dead, m.scheduled = false, false
	return d.Boot(), api.OK
}

// P3.1 to P3.3: long rows of calls, each held against the definition.
func TestAgainstTheDefinition(t *testing.T) {
	for seed := range 300 {
		c := chance(seed)
		n := 1 + c.next(9)
		d, m := fresh(t, n), &byDefinition{}
		for range n {
			m.durable = append(m.durable, full(0))
		}
		for i := range 400 {
			if got, want := step(&c, d, m); got != want {
				t.Fatalf("row %d, call %d: %d, not %d", seed, i, got, want)
			}
			if d.Dead() != m.dead || d.Waits() != len(m.at) || d.Size() != n {
				t.Fatalf("row %d, call %d: dead %t, %d waiting, %d sectors; not %t, %d, %d", seed, i, d.Dead(), d.Waits(), d.Size(), m.dead, len(m.at), n)
			}
			if !m.dead && !equal(all(t, d), m.contents()) {
				t.Fatalf("row %d, call %d: other contents", seed, i)
			}
		}
	}
}

// written is a disk that has durable contents, and pending writes on some of its sectors.
type written struct {
	d       *disk.Disk
	durable [][]byte
	since   [][][]byte // of each sector, what was written since
	last    int        // the sector of the last pending write
}

func writeSome(t *testing.T, c *chance, flushed, pending int) written {
	w := written{d: fresh(t, 6)}
	for range flushed {
		ok(t, w.d.Write(c.next(6), c.sector()))
	}
	ok(t, w.d.Flush())
	w.durable = all(t, w.d)
	w.since = make([][][]byte, 6)
	for range pending {
		b := c.sector()
		w.last = c.next(5)
		w.since[w.last] = append(w.since[w.last], b)
		ok(t, w.d.Write(w.last, b))
	}
	return w
}

// may tells whether a sector may contain b after a power loss.
func (w written) may(at int, b []byte) bool {
	whole := append([][]byte{w.durable[at]}, w.since[at]...)
	for i, base := range whole {
		if bytes.Equal(b, base) {
			return true
		}
		if at != w.last || i == len(whole)-1 {
			continue
		}
		for k := range 65 {
			if bytes.Equal(b, over(base, whole[len(whole)-1], k)) {
				return true
			}
		}
	}
	return false
}

// P3.5: what is flushed survives, and of what was written since there is nothing but whole writes and the first bytes of the last one.
func TestPowerLossLeavesWritesWhole(t *testing.T) {
	for seed := range 2000 {
		c := chance(seed)
		w := writeSome(t, &c, c.next(20), c.next(80))
		if seed%2 == 0 {
			ok(t, w.d.Crash(c.bits(), c.next(1000)-500))
		} else {
			ok(t, w.d.Fail(0, c.bits(), c.next(1000)-500))
			if e := w.d.Flush(); e != api.ErrDead {
				t.Fatalf("%d", e)
			}
		}
		ok(t, w.d.Boot())
		for at, b := range all(t, w.d) {
			if len(w.since[at]) == 0 && !bytes.Equal(b, w.durable[at]) {
				t.Fatalf("row %d, sector %d: not what was flushed", seed, at)
			}
			if !w.may(at, b) {
				t.Fatalf("row %d, sector %d: %x", seed, at, b)
			}
		}
	}
}

// P3.6: all survives, or nothing does.
func TestAllOrNothingSurvives(t *testing.T) {
	for seed := range 500 {
		c := chance(seed)
		flushed, pending := c.next(20), c.next(200)
		again := c
		w := writeSome(t, &c, flushed, pending)
		before := all(t, w.d)
		ok(t, w.d.Crash(math.MaxUint64, 64), w.d.Boot())
		if !equal(all(t, w.d), before) {
			t.Fatalf("row %d: not what was read before", seed)
		}
		w = writeSome(t, &again, flushed, pending)
		ok(t, w.d.Crash(0, c.next(1000)-500), w.d.Boot())
		if !equal(all(t, w.d), w.durable) {
			t.Fatalf("row %d: not what was durable", seed)
		}
	}
}
