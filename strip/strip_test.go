package strip_test

import (
	"bytes"
	"encoding/binary"
	"math"
	"slices"
	"testing"

	"encore/api"
	"encore/strip"
)

// most is the greatest generation, and the greatest epoch.
const most = math.MaxUint32

// random is a source of numbers that are the same in each run.
type random uint64

// below is a number from 0 to n - 1.
func (r *random) below(n int) int {
	*r = *r*6364136223846793005 + 1442695040888963407
	return int(uint64(*r>>33) % uint64(n))
}

// bytes are n bytes.
func (r *random) bytes(n int) []byte {
	b := make([]byte, n)
	for i := range b {
		b[i] = byte(r.below(256))
	}
	return b
}

// part is a generation or an epoch that isn't 0, often one of few, often one at which a byte changes.
func (r *random) part() int {
	switch r.below(3) {
	case 0:
		return 1 + r.below(4)
	case 1:
		return min(most, 1<<(8*(1+r.below(4)))-2+r.below(4))
	}
	return 1 + r.below(most)
}

// laid is a cell by its definition, of any front, any number of data bytes and anything where the data are.
func laid(gen, epoch int, count byte, data []byte) []byte {
	front := binary.BigEndian.AppendUint32(nil, uint32(gen))
	front = binary.BigEndian.AppendUint32(front, uint32(epoch))
	b := make([]byte, 64)
	copy(b, front)
	b[8] = count
	copy(b[9:56], data)
	for i, c := range front {
		b[63-i] = c
	}
	return b
}

// begun and continued are cells that hold data.
func begun(gen, epoch int, data string) []byte {
	return laid(gen, epoch, byte(len(data))+128, []byte(data))
}

func continued(gen, epoch int, data string) []byte {
	return laid(gen, epoch, byte(len(data)), []byte(data))
}

// run is the cells of a run by their definition.
func run(s strip.Stamp, b []byte) (cells [][]byte) {
	first := byte(128)
	for ; len(b) > 47; b = b[47:] {
		cells = append(cells, laid(s.Gen, s.Epoch, 47+first, b[:47]))
		first = 0
	}
	return append(cells, laid(s.Gen, s.Epoch, byte(len(b))+first, b))
}

// content is what a cell says.
type content struct {
	s      strip.Stamp
	begins bool
	data   []byte
}

func (c content) same(other content) bool {
	return c.s == other.s && c.begins == other.begins && bytes.Equal(c.data, other.data)
}

// read is Read by its definition.
func read(cell []byte) (c content, e api.Errno) {
	if len(cell) != 64 {
		return content{}, api.ErrArg
	}
	for i := range 8 {
		if cell[i] != cell[63-i] {
			return content{}, api.ErrTrunc
		}
	}
	c.s.Gen = int(binary.BigEndian.Uint32(cell))
	c.s.Epoch = int(binary.BigEndian.Uint32(cell[4:]))
	c.begins = cell[8] > 127
	n := int(cell[8] & 127)
	if c.s.Gen == 0 || n < 1 || n > 47 {
		return content{}, api.ErrSyntax
	}
	for _, b := range cell[9+n : 56] {
		if b != 0 {
			return content{}, api.ErrSyntax
		}
	}
	c.data = cell[9 : 9+n]
	return c, api.OK
}

// scan is Scan by its definition.
func scan(cells [][]byte, from strip.Stamp) (runs [][]byte, n int) {
	for i, cell := range cells {
		c, e := read(cell)
		previous := from.Epoch
		if i > 0 {
			p, _ := read(cells[i-1])
			previous = p.s.Epoch
		}
		mustBegin := i == 0 || c.s.Epoch > previous
		if e != api.OK || c.s.Gen != from.Gen || c.s.Epoch < previous || mustBegin && !c.begins {
			return runs, n
		}
		if c.begins {
			runs = append(runs, c.data)
		} else {
			runs[len(runs)-1] = slices.Concat(runs[len(runs)-1], c.data)
		}
		n++
	}
	return runs, n
}

// same tells whether two lists have the same byte sequences.
func same(a, b [][]byte) bool { return slices.EqualFunc(a, b, bytes.Equal) }

// stamps are valid ones about each place where a byte changes.
func stamps() (l []strip.Stamp) {
	for _, gen := range []int{1, 2, 255, 256, 65535, 65536, 1<<24 - 1, 1 << 24, 0x01020304, 1 << 31, most} {
		for _, epoch := range []int{0, 1, 255, 256, 65536, 1 << 24, 0x05060708, 1 << 31, most} {
			l = append(l, strip.Stamp{Gen: gen, Epoch: epoch})
		}
	}
	return l
}

func cells(t *testing.T, s strip.Stamp, b []byte) [][]byte {
	t.Helper()
	l, e := strip.Cells(s, b)
	if e != api.OK {
		t.Fatalf("Cells(%v) of %d bytes: %d", s, len(b), e)
	}
	return l
}

// says holds what Read returns for a cell without an error.
func says(t *testing.T, cell []byte, want content) {
	t.Helper()
	s, begins, data, e := strip.Read(cell)
	if got := (content{s, begins, data}); e != api.OK || !got.same(want) {
		t.Errorf("Read of %x: %v, %d instead of %v", cell, got, e, want)
	}
}

// fails holds the error that Read returns for a cell, and that nothing is returned beside it.
func fails(t *testing.T, cell []byte, want api.Errno) {
	t.Helper()
	s, begins, data, e := strip.Read(cell)
	if e != want || s != (strip.Stamp{}) || begins || len(data) > 0 {
		t.Errorf("Read of %x: %v, %t, %x, %d instead of %d", cell, s, begins, data, e, want)
	}
}

// scans holds what Scan returns for cells.
func scans(t *testing.T, l [][]byte, from strip.Stamp, n int, want ...string) {
	t.Helper()
	runs, got := strip.Scan(l, from)
	texts := make([]string, 0, len(runs))
	for _, r := range runs {
		texts = append(texts, string(r))
	}
	if got != n || !slices.Equal(texts, want) {
		t.Errorf("Scan from %v: %q, %d instead of %q, %d", from, texts, got, want, n)
	}
}

func TestExamples(t *testing.T) {
	for n, want := range map[int]int{0: 0, 47: 1, 48: 2} {
		if got := strip.Count(n); got != want {
			t.Errorf("Count(%d): %d", n, got)
		}
	}
	l := cells(t, strip.Stamp{Gen: 1, Epoch: 2}, []byte{7})
	want := "\x00\x00\x00\x01\x00\x00\x00\x02\x81\x07" + string(make([]byte, 46)) + "\x02\x00\x00\x00\x01\x00\x00\x00"
	if len(l) != 1 || string(l[0]) != want {
		t.Fatalf("Cells: %x", l)
	}
	fails(t, make([]byte, 64), api.ErrSyntax)
	l[0][63] = 3
	fails(t, l[0], api.ErrTrunc)
}

// P5.1: Count is how many cells hold so many bytes, and 0 where there is no run.
func TestCount(t *testing.T) {
	for _, n := range []int{math.MinInt, math.MinInt + 1, -128, -48, -47, -46, -2, -1, 0} {
		if got := strip.Count(n); got != 0 {
			t.Errorf("Count(%d): %d", n, got)
		}
	}
	for n := 1; n <= 5000; n++ {
		if got, want := strip.Count(n), len(run(strip.Stamp{}, make([]byte, n))); got != want {
			t.Fatalf("Count(%d): %d instead of %d", n, got, want)
		}
	}
	whole := math.MaxInt / 47
	for n, want := range map[int]int{47 * whole: whole, 47*whole - 1: whole, 47*whole - 46: whole, 47*whole - 47: whole - 1, 47*whole + 1: whole + 1, math.MaxInt: whole + 1} {
		if got := strip.Count(n); got != want {
			t.Errorf("Count(%d): %d instead of %d", n, got, want)
		}
	}
}

// P5.1: the cells of a run hold its bytes in order, each but the last one as many as it can.
func TestCells(t *testing.T) {
	r := random(51)
	s := strip.Stamp{Gen: 0x01020304, Epoch: 0x05060708}
	for n := 1; n <= 300; n++ {
		b := r.bytes(n)
		if l := cells(t, s, b); !same(l, run(s, b)) || len(l) != strip.Count(n) {
			t.Errorf("Cells of %d bytes: %x", n, l)
		}
	}
	for _, n := range []int{8196, 47 * 255, 47*255 + 1, 47*510 - 1, 1 << 16} {
		b := r.bytes(n)
		if l := cells(t, s, b); !same(l, run(s, b)) {
			t.Errorf("Cells of %d bytes: %d", n, len(l))
		}
	}
}

// P5.1: every valid stamp is in all cells of the run.
func TestCellsStamps(t *testing.T) {
	b := bytes.Repeat([]byte{5}, 100)
	for _, s := range stamps() {
		if l := cells(t, s, b); !same(l, run(s, b)) {
			t.Errorf("Cells(%v): %x", s, l)
		}
	}
}

// P5.1: the error of a stamp that isn't valid comes before that of no bytes.
func TestCellsErrors(t *testing.T) {
	for _, s := range []strip.Stamp{
		{}, {0, 1}, {-1, 1}, {math.MinInt, 1}, {most + 1, 1}, {1 << 33, 1}, {1<<33 + 1, 1}, {math.MaxInt, 1},
		{1, -1}, {1, math.MinInt}, {1, most + 1}, {1, 1<<32 + 1}, {1, math.MaxInt}, {most, most + 1}, {most + 1, most}, {-1, -1},
	} {
		for _, b := range [][]byte{nil, {}, {7}, make([]byte, 48)} {
			if l, e := strip.Cells(s, b); len(l) > 0 || e != api.ErrRange {
				t.Errorf("Cells(%v) of %d bytes: %d cells, %d", s, len(b), len(l), e)
			}
		}
	}
	for _, s := range stamps() {
		for _, b := range [][]byte{nil, {}} {
			if l, e := strip.Cells(s, b); len(l) > 0 || e != api.ErrArg {
				t.Errorf("Cells(%v) of no bytes: %d cells, %d", s, len(l), e)
			}
		}
	}
}

// P5.2: Front is what the first bytes say, whatever it is and whatever follows.
func TestFront(t *testing.T) {
	r := random(52)
	for _, gen := range []int{0, 1, 255, 256, 0x01020304, 1 << 31, most} {
		for _, epoch := range []int{0, 1, 255, 256, 0x05060708, 1 << 31, most} {
			whole := laid(gen, epoch, 129, []byte{7})
			torn := append(whole[:8:8], r.bytes(56)...)
			for _, cell := range [][]byte{whole, torn} {
				if s, e := strip.Front(cell); s != (strip.Stamp{Gen: gen, Epoch: epoch}) || e != api.OK {
					t.Errorf("Front of %x: %v, %d", cell, s, e)
				}
			}
		}
	}
}

// P5.2: only 64 bytes are a cell.
func TestLengths(t *testing.T) {
	whole := begun(1, 2, "abc")
	for n := range 300 {
		for _, cell := range [][]byte{make([]byte, n), slices.Concat(whole, whole, whole, whole, whole)[:n]} {
			if n == 64 {
				continue
			}
			if s, e := strip.Front(cell); s != (strip.Stamp{}) || e != api.ErrArg {
				t.Errorf("Front of %d bytes: %v, %d", n, s, e)
			}
			fails(t, cell, api.ErrArg)
		}
	}
	// Room behind the end is not a part of the cell.
	fails(t, whole[:63], api.ErrArg)
	fails(t, nil, api.ErrArg)
}

// P5.2: Read returns the stamp, whether a run begins, and the data.
func TestRead(t *testing.T) {
	r := random(53)
	for n := 1; n <= 47; n++ {
		for _, data := range [][]byte{make([]byte, n), r.bytes(n), bytes.Repeat([]byte{0xff}, n)} {
			s := strip.Stamp{Gen: 0x01020304, Epoch: 0x05060708}
			says(t, laid(s.Gen, s.Epoch, byte(n), data), content{s, false, data})
			says(t, laid(s.Gen, s.Epoch, byte(n)+128, data), content{s, true, data})
		}
	}
	for _, s := range stamps() {
		says(t, begun(s.Gen, s.Epoch, "abc"), content{s, true, []byte("abc")})
		says(t, continued(s.Gen, s.Epoch, "abc"), content{s, false, []byte("abc")})
	}
}

// P5.2: a cell is torn if any bit of its back is another than in its front; that comes before other errors.
func TestReadTorn(t *testing.T) {
	for _, whole := range [][]byte{
		begun(0x01020304, 0x05060708, "abc"),
		continued(1, 0, "abc"),
		make([]byte, 64),
		laid(0, 0, 0, []byte{1}),
		laid(0, 7, 255, bytes.Repeat([]byte{1}, 47)),
	} {
		for i := range 64 {
			if i >= 8 && i < 56 {
				continue
			}
			for bit := range 8 {
				cell := bytes.Clone(whole)
				cell[i] ^= 1 << bit
				fails(t, cell, api.ErrTrunc)
			}
		}
	}
	front := begun(0x01020304, 0x05060708, "abc")
	unturned := bytes.Clone(front)
	copy(unturned[56:], front[:8])
	fails(t, unturned, api.ErrTrunc)
	copy(unturned[56:], "\x04\x03\x02\x01\x08\x07\x06\x05")
	fails(t, unturned, api.ErrTrunc)
}

// P5.2: a generation 0 is no stamp of a cell; an epoch 0 is.
func TestReadGeneration(t *testing.T) {
	for _, epoch := range []int{0, 1, 256, most} {
		fails(t, begun(0, epoch, "abc"), api.ErrSyntax)
		fails(t, continued(0, epoch, "abc"), api.ErrSyntax)
		says(t, begun(1, epoch, "abc"), content{strip.Stamp{Gen: 1, Epoch: epoch}, true, []byte("abc")})
	}
}

// P5.2: a cell has from 1 to 47 data bytes.
func TestReadNumberOfData(t *testing.T) {
	for count := range 256 {
		cell := laid(3, 4, byte(count), nil)
		n := count % 128
		if n < 1 || n > 47 {
			fails(t, cell, api.ErrSyntax)
			fails(t, laid(3, 4, byte(count), bytes.Repeat([]byte{1}, 47)), api.ErrSyntax)
		} else {
			says(t, cell, content{strip.Stamp{Gen: 3, Epoch: 4}, count > 127, make([]byte, n)})
		}
	}
}

// P5.2: nothing but zeros follows the data.
func TestReadBehindTheData(t *testing.T) {
	for n := 1; n <= 47; n++ {
		for at := range 47 {
			for _, c := range []byte{1, 128, 255} {
				data := make([]byte, 47)
				data[at] = c
				cell := laid(3, 4, byte(n)+128, data)
				if at < n {
					says(t, cell, content{strip.Stamp{Gen: 3, Epoch: 4}, true, data[:n]})
				} else {
					fails(t, cell, api.ErrSyntax)
				}
			}
		}
	}
}

// P5.2: on cells with something changed here and there, Read answers as the definition does.
func TestReadByDefinition(t *testing.T) {
	r := random(54)
	for range 30000 {
		cell := laid(r.part()*min(1, r.below(8)), r.part()*min(1, r.below(4)), byte(r.below(256)), r.bytes(r.below(20)))
		for range r.below(3) {
			cell[r.below(64)] = byte(r.below(3))
		}
		want, e := read(cell)
		if e != api.OK {
			fails(t, cell, e)
		} else {
			says(t, cell, want)
		}
	}
}

// P5.3: no cells, no runs.
func TestScanNothing(t *testing.T) {
	for _, from := range append(stamps(), strip.Stamp{}, strip.Stamp{Gen: -1, Epoch: -1}) {
		scans(t, nil, from, 0)
		scans(t, [][]byte{}, from, 0)
		scans(t, [][]byte{nil}, from, 0)
		scans(t, [][]byte{make([]byte, 64)}, from, 0)
	}
}

// P5.3: the first cell begins a run, has the generation, and an epoch that is not smaller.
func TestScanFirst(t *testing.T) {
	from := strip.Stamp{Gen: 7, Epoch: 5}
	for _, cell := range [][]byte{begun(7, 5, "ab"), begun(7, 6, "ab"), begun(7, most, "ab")} {
		scans(t, [][]byte{cell}, from, 1, "ab")
	}
	for _, cell := range [][]byte{
		continued(7, 5, "ab"), continued(7, 6, "ab"), continued(7, most, "ab"),
		begun(7, 4, "ab"), begun(7, 0, "ab"),
		begun(6, 5, "ab"), begun(8, 5, "ab"), begun(8, 6, "ab"), begun(most, 5, "ab"), begun(0, 5, "ab"),
	} {
		scans(t, [][]byte{cell, begun(7, 5, "cd"), begun(7, 6, "ef")}, from, 0)
	}
}

// P5.3: a cell is accepted behind another one if it continues its run, or begins one of an epoch that is not smaller.
func TestScanNext(t *testing.T) {
	from := strip.Stamp{Gen: 7, Epoch: 2}
	first := begun(7, 5, "ab")
	scans(t, [][]byte{first, continued(7, 5, "cd")}, from, 2, "abcd")
	scans(t, [][]byte{first, begun(7, 5, "cd")}, from, 2, "ab", "cd")
	scans(t, [][]byte{first, begun(7, 6, "cd")}, from, 2, "ab", "cd")
	scans(t, [][]byte{first, begun(7, most, "cd"), continued(7, most, "ef")}, from, 3, "ab", "cdef")
	for _, cell := range [][]byte{
		continued(7, 6, "cd"), continued(7, most, "cd"),
		continued(7, 4, "cd"), begun(7, 4, "cd"), begun(7, 2, "cd"), begun(7, 0, "cd"),
		begun(6, 5, "cd"), begun(8, 5, "cd"), begun(8, 6, "cd"), continued(6, 5, "cd"), continued(8, 5, "cd"), begun(0, 5, "cd"),
		make([]byte, 64), nil, begun(7, 5, "cd")[:63], append(begun(7, 5, "cd"), 0),
		laid(7, 5, 0, nil), laid(7, 5, 48, nil), laid(7, 5, 128, nil), laid(7, 5, 129, []byte("cd")),
		append(begun(7, 5, "cd")[:63], 1),
	} {
		scans(t, [][]byte{first, cell, begun(7, 5, "ef"), begun(7, 6, "gh")}, from, 1, "ab")
		scans(t, [][]byte{first, continued(7, 5, "yz"), cell, continued(7, 5, "ef")}, from, 2, "abyz")
	}
}

// P5.3: each epoch is held against that of the cell before, not against the first one.
func TestScanEpochsRise(t *testing.T) {
	from := strip.Stamp{Gen: 1, Epoch: 0}
	l := [][]byte{begun(1, 1, "a"), begun(1, 3, "b"), continued(1, 3, "c"), begun(1, 3, "d"), begun(1, 4, "e")}
	scans(t, append(l, begun(1, 5, "f")), from, 6, "a", "bc", "d", "e", "f")
	scans(t, append(l, begun(1, 3, "f")), from, 5, "a", "bc", "d", "e")
	scans(t, append(l, continued(1, 3, "f")), from, 5, "a", "bc", "d", "e")
	scans(t, append(l, continued(1, 4, "f")), from, 6, "a", "bc", "d", "ef")
}

// P5.3: a run may go on behind a cell that isn't full; how many bytes a cell has is not a condition.
func TestScanShortCells(t *testing.T) {
	full := string(bytes.Repeat([]byte("z"), 47))
	l := [][]byte{begun(2, 2, "a"), continued(2, 2, full), continued(2, 2, "b"), continued(2, 2, "\x00"), begun(2, 2, full)}
	scans(t, l, strip.Stamp{Gen: 2, Epoch: 2}, 5, "a"+full+"b\x00", full)
}

// P5.3: a stamp to start from need not be that of any cell.
func TestScanFromAnyStamp(t *testing.T) {
	for _, epoch := range []int{-1, math.MinInt} {
		scans(t, [][]byte{begun(2, 0, "a"), begun(2, 1, "b")}, strip.Stamp{Gen: 2, Epoch: epoch}, 2, "a", "b")
	}
	for _, from := range []strip.Stamp{{0, 0}, {-2, 0}, {1<<32 + 2, 0}, {math.MinInt, 0}, {math.MaxInt, 0}, {2, 1 << 32}, {2, math.MaxInt}} {
		scans(t, [][]byte{begun(2, 0, "a"), begun(2, most, "b")}, from, 0)
		scans(t, [][]byte{begun(2, most, "b")}, from, 0)
		scans(t, [][]byte{begun(0, 0, "a")}, from, 0)
	}
}

// P5.3: on cells of few stamps, some of them damaged, Scan answers as the definition does.
func TestScanByDefinition(t *testing.T) {
	r := random(55)
	for range 30000 {
		var l [][]byte
		epoch := 1
		for range r.below(8) {
			epoch += r.below(3) / 2
			count := 1 + r.below(3) + 128*(1-r.below(3)/2)
			cell := laid(1, epoch, byte(count), r.bytes(count%128))
			switch r.below(20) {
			case 0:
				cell[r.below(64)] = byte(r.below(3))
			case 1:
				cell = laid(1+r.below(2), r.below(4), byte(count), nil)
			}
			l = append(l, cell)
		}
		from := strip.Stamp{Gen: 1, Epoch: r.below(3)}
		runs, n := strip.Scan(l, from)
		if wantRuns, want := scan(l, from); n != want || !same(runs, wantRuns) {
			t.Fatalf("Scan of %x from %v: %x, %d instead of %x, %d", l, from, runs, n, wantRuns, want)
		}
	}
}

// P5.3: a long run is put together without going through all of it for each cell.
func TestScanMany(t *testing.T) {
	s := strip.Stamp{Gen: 1, Epoch: 1}
	b := make([]byte, 47*100_000)
	runs, n := strip.Scan(cells(t, s, b), s)
	if n != 100_000 || len(runs) != 1 || !bytes.Equal(runs[0], b) {
		t.Errorf("%d runs, %d", len(runs), n)
	}
}

// spare is b with room behind it, filled with a mark; marked tells whether nothing of both has changed.
func spare(b []byte) []byte {
	l := append(bytes.Clone(b), bytes.Repeat([]byte{0xee}, 100)...)
	return l[:len(b)]
}

func marked(b, was []byte) bool {
	return bytes.Equal(b, was) && bytes.Equal(b[:len(b)+100][len(b):], bytes.Repeat([]byte{0xee}, 100))
}

// overwrite fills b, with its room, with another mark.
func overwrite(b []byte) {
	b = b[:cap(b)]
	for i := range b {
		b[i] = 0xdd
	}
}

// P5.4: Cells only reads its argument, and each cell is new memory of its own.
func TestCellsMemory(t *testing.T) {
	s := strip.Stamp{Gen: 1, Epoch: 2}
	for _, n := range []int{1, 46, 47, 48, 94, 140} {
		was := bytes.Repeat([]byte{5}, n)
		want := run(s, was)
		b := spare(was)
		for i := range want {
			l := cells(t, s, b)
			overwrite(l[i])
			for j := range l {
				if i != j && !bytes.Equal(l[j], want[j]) {
					t.Errorf("cells %d and %d share memory", i, j)
				}
			}
			if !marked(b, was) {
				t.Fatal("Cells changes its argument, or its result is its memory")
			}
		}
		l := cells(t, s, b)
		overwrite(b)
		if !same(l, want) {
			t.Error("Cells' result changes with its argument")
		}
	}
}

// P5.4: Front and Read only read their argument, and the data are new memory.
func TestReadMemory(t *testing.T) {
	for _, n := range []int{1, 20, 47} {
		was := begun(1, 2, string(bytes.Repeat([]byte{5}, n)))
		cell := spare(was)
		strip.Front(cell)
		_, _, data, _ := strip.Read(cell)
		overwrite(data)
		if !marked(cell, was) {
			t.Error("Read changes its argument, or its data are its memory")
		}
		_, _, data, _ = strip.Read(cell)
		overwrite(cell)
		if !bytes.Equal(data, bytes.Repeat([]byte{5}, n)) {
			t.Error("Read's data change with its argument")
		}
		torn := spare(append(was[:63:63], 9))
		strip.Read(torn)
		if !marked(torn, append(was[:63:63], 9)) {
			t.Error("Read changes a torn cell")
		}
	}
}

// P5.4: Scan only reads its argument, and each run is new memory of its own.
func TestScanMemory(t *testing.T) {
	full := string(bytes.Repeat([]byte("z"), 47))
	was := [][]byte{begun(1, 1, "a"), begun(1, 1, full), continued(1, 1, full), continued(1, 1, "c"), begun(1, 2, full)}
	want, _ := scan(was, strip.Stamp{Gen: 1, Epoch: 1})
	var l [][]byte
	for _, cell := range was {
		l = append(l, spare(cell))
	}
	given := slices.Clone(l)
	for i := range want {
		runs, _ := strip.Scan(l[:4:4], strip.Stamp{Gen: 1, Epoch: 1})
		if i == 2 {
			runs, _ = strip.Scan(l, strip.Stamp{Gen: 1, Epoch: 1})
		}
		overwrite(runs[i])
		for j := range runs {
			if i != j && !bytes.Equal(runs[j], want[j]) {
				t.Errorf("runs %d and %d share memory", i, j)
			}
		}
		for j, cell := range l {
			if !marked(cell, was[j]) || &cell[0] != &given[j][0] {
				t.Fatal("Scan changes its argument, or its result is its memory")
			}
		}
	}
	runs, _ := strip.Scan(l, strip.Stamp{Gen: 1, Epoch: 1})
	for i := range l {
		overwrite(l[i])
	}
	if !same(runs, want) {
		t.Error("Scan's runs change with its argument")
	}
}

// written is runs of a generation, of epochs that do not decrease, and their cells.
type written struct {
	from  strip.Stamp
	runs  [][]byte
	cells [][]byte
}

func write(t *testing.T, r *random, most int) (w written) {
	w.from = strip.Stamp{Gen: r.part(), Epoch: r.below(3)}
	s := w.from
	for range 1 + r.below(most) {
		s.Epoch += r.below(3)
		b := r.bytes(1 + r.below(150))
		w.runs = append(w.runs, b)
		w.cells = append(w.cells, cells(t, s, b)...)
	}
	return w
}

// P5.5: runs whose epochs do not decrease are scanned as they were written.
func TestRunsAreScannedAsWritten(t *testing.T) {
	r := random(56)
	for range 3000 {
		w := write(t, &r, 8)
		for _, behind := range [][]byte{nil, make([]byte, 64), begun(w.from.Gen%most+1, most, "a")} {
			l := w.cells
			if behind != nil {
				l = append(slices.Clip(l), behind)
			}
			if runs, n := strip.Scan(l, w.from); n != len(w.cells) || !same(runs, w.runs) {
				t.Fatalf("%d runs, %d instead of %d, %d", len(runs), n, len(w.runs), len(w.cells))
			}
		}
	}
}

// over is a cell of which only the first k bytes are new.
func over(old, young []byte, k int) []byte { return slices.Concat(young[:k], old[k:]) }

// stale is a cell of another generation, or of a smaller epoch than that of the cell before, or zeros.
func stale(r *random, gen, before int) []byte {
	epoch := r.part()
	switch r.below(4) {
	case 0:
		return make([]byte, 64)
	case 1:
		if before > 0 {
			epoch = r.below(before)
			break
		}
		fallthrough
	case 2:
		gen = min(most, gen+1+r.below(300))
	case 3:
		gen = max(1, gen-1-r.below(300))
	}
	return laid(gen, epoch, byte(1+r.below(47)+128*r.below(2)), r.bytes(r.below(2)))
}

// P5.6: where only the first bytes of a cell are new, the cells before it are accepted, but neither it nor those after it.
func TestTornCellEndsTheScan(t *testing.T) {
	r := random(57)
	for range 1000 {
		w := write(t, &r, 4)
		at := r.below(len(w.cells))
		before := w.from
		if at > 0 {
			before, _ = strip.Front(w.cells[at-1])
		}
		young := w.cells[at]
		old := stale(&r, w.from.Gen, before.Epoch)
		if s, _ := strip.Front(old); s.Gen == w.from.Gen && s.Epoch >= before.Epoch {
			continue
		}
		for k := range 65 {
			l := slices.Clone(w.cells)
			l[at] = over(old, young, k)
			want := at
			if bytes.Equal(l[at], young) {
				want = len(l)
			}
			if _, n := strip.Scan(l, w.from); n != want {
				t.Fatalf("%d bytes of %x over %x, as cell %d of %d: %d", k, young, old, at, len(l), n)
			}
		}
	}
}

// P5.6: that holds for every old epoch smaller than the new one, unless the old cell is left as it was; of that one P5.3 decides.
func TestTornCellOfAnyOlderEpoch(t *testing.T) {
	from := strip.Stamp{Gen: 1, Epoch: 0}
	for _, epoch := range []int{2, 255, 256, 257, 511, 512, 65535, 65536, 1 << 24} {
		for _, older := range []int{0, 1, epoch / 2, epoch - 1} {
			old, young := begun(1, older, "b"), begun(1, epoch, "c")
			for k := range 65 {
				torn := over(old, young, k)
				l := [][]byte{begun(1, 0, "a"), torn, continued(1, epoch, "d")}
				switch {
				case bytes.Equal(torn, young):
					scans(t, l, from, 3, "a", "cd")
				case bytes.Equal(torn, old):
					scans(t, l, from, 2, "a", "b")
				default:
					scans(t, l, from, 1, "a")
				}
			}
		}
	}
}

// overwritten is a sector over which cells are written, and the generation of the last one of them.
type overwritten struct {
	sector []byte
	gen    int
}

// next is a cell of a run of one byte that may be written over the sector; there is none if the greatest epoch is reached.
func (o overwritten) next(t *testing.T, r *random) (cell []byte, gen int, more bool) {
	front, e := strip.Front(o.sector)
	if e != api.OK {
		t.Fatal(e)
	}
	if front.Epoch == most {
		return nil, 0, false
	}
	rise := func(n int) int {
		switch r.below(4) {
		case 0:
			return n + 1
		case 1:
			// The next number at which some byte changes.
			unit := 1 << (8 * (1 + r.below(3)))
			return (n/unit+1)*unit - r.below(2)
		case 2:
			return n + 1 + r.below(70000)
		}
		return n + 1 + r.below(300)
	}
	epoch := min(most, max(front.Epoch+1, rise(front.Epoch)))
	gen = max(o.gen, 1)
	if r.below(3) == 0 {
		gen = min(most, rise(o.gen))
	}
	return cells(t, strip.Stamp{Gen: gen, Epoch: epoch}, []byte{byte(r.below(4))})[0], gen, true
}

// P5.7: a sector over which cells of rising epochs are written, torn anywhere, has the new cell, or what it had, or Read returns an error.
func TestOverwrittenSector(t *testing.T) {
	r := random(58)
	for row := range 3000 {
		o := overwritten{sector: make([]byte, 64)}
		for range 40 {
			young, gen, more := o.next(t, &r)
			if !more {
				break
			}
			k := r.below(65)
			switch r.below(4) {
			case 0:
				k = r.below(9)
			case 1:
				k = 56 + r.below(9)
			}
			before := o.sector
			o = overwritten{over(before, young, k), gen}
			if bytes.Equal(o.sector, young) || bytes.Equal(o.sector, before) {
				continue
			}
			if s, _, data, e := strip.Read(o.sector); e == api.OK {
				t.Fatalf("row %d: %d bytes of %x over %x: %v, %x", row, k, young, before, s, data)
			}
		}
	}
}
