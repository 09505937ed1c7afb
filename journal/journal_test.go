package journal_test

import (
	"bytes"
	"math"
	"slices"
	"strings"
	"testing"

	"encore/api"
	"encore/disk"
	"encore/frame"
	"encore/journal"
	"encore/strip"
)

const (
	// most is the greatest generation, and the greatest epoch.
	most = math.MaxUint32
	// all lets every pending write survive, and whole tears none.
	all   = math.MaxUint64
	whole = 64
)

// random is a source of numbers that are the same in each run.
type random uint64

// below is a number from 0 to n - 1.
func (r *random) below(n int) int {
	*r = *r*6364136223846793005 + 1442695040888963407
	return int(uint64(*r>>33) % uint64(n))
}

// bytes are n bytes.
func (r *random) bytes(n int) []byte {
	b := make([]byte, n)
	for i := range b {
		b[i] = byte(r.below(256))
	}
	return b
}

// bits are 64 bits, often all, none, or a few of the first ones.
func (r *random) bits() uint64 {
	switch r.below(4) {
	case 0:
		return 0
	case 1:
		return all
	case 2:
		return uint64(r.below(16))
	}
	return uint64(r.below(1<<31))<<33 ^ uint64(r.below(1<<31))<<16 ^ uint64(r.below(1<<31))
}

// ok is for calls that must succeed.
func ok(t *testing.T, errors ...api.Errno) {
	t.Helper()
	for i, e := range errors {
		if e != api.OK {
			t.Fatalf("call %d: %d", i, e)
		}
	}
}

// errs is for calls that must return an error.
func errs(t *testing.T, want api.Errno, errors ...api.Errno) {
	t.Helper()
	for i, e := range errors {
		if e != want {
			t.Errorf("call %d: %d instead of %d", i, e, want)
		}
	}
}

// fresh is a new disk of so many sectors.
func fresh(t *testing.T, sectors int) *disk.Disk {
	t.Helper()
	d, e := disk.New(sectors)
	ok(t, e)
	return d
}

// open is the journal of a disk, which has these payloads.
func open(t *testing.T, d *disk.Disk, want ...string) *journal.Journal {
	t.Helper()
	j, l, e := journal.Open(d)
	if e != api.OK || j == nil {
		t.Fatalf("Open: %v, %d", j, e)
	}
	if !slices.Equal(texts(l), want) {
		t.Fatalf("Open: %q instead of %q", texts(l), want)
	}
	counts(t, j, len(want), len(want))
	return j
}

// openFails holds the error of Open, and that nothing is returned beside it.
func openFails(t *testing.T, d *disk.Disk, want api.Errno) {
	t.Helper()
	if j, l, e := journal.Open(d); j != nil || len(l) > 0 || e != want {
		t.Errorf("Open: %v, %q, %d instead of %d", j, l, e, want)
	}
}

// texts are payloads as they are written in tests.
func texts(l [][]byte) (s []string) {
	for _, b := range l {
		s = append(s, string(b))
	}
	return s
}

// counts holds how many payloads a journal has, and how many of them are synced.
func counts(t *testing.T, j *journal.Journal, payloads, synced int) {
	t.Helper()
	if j.Len() != payloads || j.Synced() != synced {
		t.Errorf("%d payloads, %d synced instead of %d, %d", j.Len(), j.Synced(), payloads, synced)
	}
}

func room(t *testing.T, j *journal.Journal, want int) {
	t.Helper()
	if got := j.Room(); got != want {
		t.Errorf("Room: %d instead of %d", got, want)
	}
}

// synced appends payloads, each synced by itself.
func synced(t *testing.T, j *journal.Journal, payloads ...string) {
	t.Helper()
	for _, p := range payloads {
		ok(t, j.Append([]byte(p)), j.Sync())
	}
}

// sectors is what each sector of a disk contains.
func sectors(t *testing.T, d *disk.Disk) (l []string) {
	t.Helper()
	for at := range d.Size() {
		b, e := d.Read(at)
		ok(t, e)
		l = append(l, string(b))
	}
	return l
}

// put makes cells, or other sectors, durable from a sector on.
func put(t *testing.T, d *disk.Disk, at int, cells ...[]byte) {
	t.Helper()
	for i, c := range cells {
		ok(t, d.Write(at+i, c))
	}
	ok(t, d.Flush())
}

// contains holds what is in a sector and those that follow it.
func contains(t *testing.T, d *disk.Disk, at int, want ...[]byte) {
	t.Helper()
	for i, c := range want {
		if b, e := d.Read(at + i); e != api.OK || !bytes.Equal(b, c) {
			t.Errorf("sector %d: %x, %d instead of %x", at+i, b, e, c)
		}
	}
}

// run is the cells of bytes.
func run(t *testing.T, gen, epoch int, b ...[]byte) [][]byte {
	t.Helper()
	cells, e := strip.Cells(strip.Stamp{Gen: gen, Epoch: epoch}, bytes.Join(b, nil))
	ok(t, e)
	return cells
}

// head is the cell of a head.
func head(t *testing.T, gen, epoch int) []byte {
	t.Helper()
	return run(t, gen, epoch, []byte{1})[0]
}

func framed(t *testing.T, payload string) []byte {
	t.Helper()
	f, e := frame.Pack([]byte(payload))
	ok(t, e)
	return f
}

// zeros is a sector that was never written.
var zeros = make([]byte, 64)

// model is a journal as the chapter defines it.
type model struct {
	d          *disk.Disk
	gen, epoch int
	used       int
	payloads   []string
	pending    []string
	broken     bool
}

// size is how many sectors an area has, and start is where that of a generation begins.
func (m *model) size() int           { return (m.d.Size() - 2) / 2 }
func (m *model) start(gen int) int   { return 2 + (gen%2)*m.size() }
func (m *model) synced() int         { return len(m.payloads) - len(m.pending) }
func (m *model) need(l []string) int { return strip.Count(len(row(l))) }
func (m *model) room() int           { return m.size() - m.used - m.need(m.pending) }

// row is the frames of payloads, one after the other.
func row(l []string) (b []byte) {
	for _, p := range l {
		f, _ := frame.Pack([]byte(p))
		b = append(b, f...)
	}
	return b
}

// openModel is Open by its definition.
func openModel(d *disk.Disk) (*model, []string, api.Errno) {
	m := &model{d: d}
	switch {
	case d.Size() == 0:
		return nil, nil, api.ErrNil
	case d.Dead():
		return nil, nil, api.ErrDead
	case d.Size() < 6:
		return nil, nil, api.ErrArg
	}
	var cells [][]byte
	greatest := 0
	for at := range d.Size() {
		c, _ := d.Read(at)
		cells = append(cells, c)
		s, _ := strip.Front(c)
		greatest = max(greatest, s.Epoch)
	}
	m.epoch = greatest + 1
	if m.epoch > most {
		return nil, nil, api.ErrDisk
	}
	var found strip.Stamp
	for at := range 2 {
		s, begins, data, e := strip.Read(cells[at])
		if e == api.OK && begins && bytes.Equal(data, []byte{1}) && s.Gen%2 == at && s.Gen > m.gen {
			found, m.gen = s, s.Gen
		}
	}
	if m.gen == 0 {
		m.gen = 1
		if e := m.write(1, 1, []byte{1}); e != api.OK {
			return nil, nil, e
		}
		return m, nil, api.OK
	}
	runs, n := strip.Scan(cells[m.start(m.gen):m.start(m.gen)+m.size()], found)
	m.used = n
	for _, r := range runs {
		l, _, e := frame.All(r)
		if e != api.OK {
			return nil, nil, api.ErrDisk
		}
		m.payloads = append(m.payloads, texts(l)...)
	}
	return m, slices.Clone(m.payloads), api.OK
}

func (m *model) write(at, gen int, b []byte) api.Errno {
	cells, _ := strip.Cells(strip.Stamp{Gen: gen, Epoch: m.epoch}, b)
	for i, c := range cells {
		if e := m.d.Write(at+i, c); e != api.OK {
			m.broken = true
			return e
		}
	}
	if e := m.d.Flush(); e != api.OK {
		m.broken = true
		return e
	}
	return api.OK
}

func (m *model) append(p string) api.Errno {
	switch {
	case m.broken:
		return api.ErrDead
	case len(p) > 8192:
		return api.ErrLimit
	case m.need(append(slices.Clone(m.pending), p)) > m.size()-m.used:
		return api.ErrFull
	}
	m.payloads = append(m.payloads, p)
	m.pending = append(m.pending, p)
	return api.OK
}

func (m *model) sync() api.Errno {
	if m.broken {
		return api.ErrDead
	}
	if len(m.pending) == 0 {
		return api.OK
	}
	if e := m.write(m.start(m.gen)+m.used, m.gen, row(m.pending)); e != api.OK {
		return e
	}
	m.used += m.need(m.pending)
	m.pending = nil
	return api.OK
}

func (m *model) checkpoint(p string) api.Errno {
	switch {
	case m.broken:
		return api.ErrDead
	case len(p) > 8192:
		return api.ErrLimit
	case m.need([]string{p}) > m.size():
		return api.ErrFull
	case m.gen == most:
		return api.ErrDisk
	}
	if e := m.write(m.start(m.gen+1), m.gen+1, row([]string{p})); e != api.OK {
		return e
	}
	if e := m.write((m.gen+1)%2, m.gen+1, []byte{1}); e != api.OK {
		return e
	}
	m.gen++
	m.used = m.need([]string{p})
	m.payloads, m.pending = []string{p}, nil
	return api.OK
}

func TestExamples(t *testing.T) {
	d := fresh(t, 6)
	j := open(t, d)
	synced(t, j, "\x07")
	j = open(t, d, "\x07")
	ok(t, j.Append([]byte{8}))
	j = open(t, d, "\x07")
	ok(t, j.Checkpoint([]byte{9}))
	synced(t, j, "\x0a")
	open(t, d, "\x09", "\x0a")
}

// P6.1: which disks there can't be a journal on; that they are dead counts first.
func TestOpenErrors(t *testing.T) {
	openFails(t, nil, api.ErrNil)
	openFails(t, &disk.Disk{}, api.ErrNil)
	for n := 1; n <= 8; n++ {
		d := fresh(t, n)
		if n < 6 {
			openFails(t, d, api.ErrArg)
			contains(t, d, 0, slices.Repeat([][]byte{zeros}, n)...)
		}
		ok(t, d.Crash(0, 0))
		openFails(t, d, api.ErrDead)
		ok(t, d.Boot())
		if n < 6 {
			openFails(t, d, api.ErrArg)
		} else {
			open(t, d)
		}
	}
}

// P6.1: on a new disk the head of generation 1 is written with epoch 1, and nothing else, in two operations.
func TestOpenNew(t *testing.T) {
	cell := []byte("\x00\x00\x00\x01\x00\x00\x00\x01\x81\x01" + string(make([]byte, 46)) + "\x01\x00\x00\x00\x01\x00\x00\x00")
	for _, n := range []int{6, 7, 8, 9, 100, 511, 512} {
		d := fresh(t, n)
		ok(t, d.Fail(2, 0, 0))
		j := open(t, d)
		room(t, j, (n-2)/2)
		if d.Waits() != 0 {
			t.Errorf("%d sectors: %d writes are pending", n, d.Waits())
		}
		contains(t, d, 0, slices.Concat([][]byte{zeros, cell}, slices.Repeat([][]byte{zeros}, n-2))...)
		errs(t, api.ErrDead, d.Flush())
	}
}

// P6.1: an error of the disk is returned by Open; what the power leaves then is opened again.
func TestOpenInterrupted(t *testing.T) {
	for n := range 2 {
		for _, bits := range []uint64{0, 1} {
			for cut := range 65 {
				d := fresh(t, 6)
				ok(t, d.Fail(n, bits, cut))
				openFails(t, d, api.ErrDead)
				ok(t, d.Boot())
				synced(t, open(t, d), "a")
				open(t, d, "a")
			}
		}
	}
}

// P6.1: the epoch is one more than the greatest in any front, be it of a torn cell or in no cell at all.
func TestOpenEpoch(t *testing.T) {
	torn := head(t, 1, 700)
	torn[60] ^= 1
	other := slices.Concat([]byte("\xff\xff\xff\xff\x00\x00\x03\x00"), bytes.Repeat([]byte{9}, 56))
	none := slices.Concat(make([]byte, 6), []byte{1, 44}, make([]byte, 56))
	for _, n := range []int{6, 7} {
		for at := range n {
			for epoch, cell := range map[int][]byte{701: torn, 769: other, 301: none, 256: head(t, 1, 255), most: head(t, 6, most-1)} {
				d := fresh(t, n)
				open(t, d)
				put(t, d, at, cell)
				j, _, e := journal.Open(d)
				ok(t, e, j.Checkpoint([]byte("a")))
				b, e := d.Read(1)
				ok(t, e)
				c, e := d.Read(0)
				ok(t, e)
				s, _ := strip.Front(b)
				s2, _ := strip.Front(c)
				if s.Epoch != epoch && s2.Epoch != epoch {
					t.Errorf("sector %d: epoch %d, %d instead of %d", at, s.Epoch, s2.Epoch, epoch)
				}
			}
		}
	}
}

// P6.1: where the greatest epoch is in any sector, there is no other; nothing is written then.
func TestOpenNoEpochLeft(t *testing.T) {
	for _, n := range []int{6, 9} {
		for at := range n {
			for _, cell := range [][]byte{head(t, 1, most), head(t, 2, most), slices.Concat(bytes.Repeat([]byte{255}, 8), make([]byte, 56))} {
				for _, used := range []bool{false, true} {
					d := fresh(t, n)
					if used {
						synced(t, open(t, d), "a")
					}
					put(t, d, at, cell)
					before := sectors(t, d)
					ok(t, d.Fail(0, 0, 0))
					openFails(t, d, api.ErrDisk)
					if !slices.Equal(sectors(t, d), before) {
						t.Errorf("sector %d: something was written", at)
					}
				}
			}
		}
	}
}

// P6.1: the journal is of the valid head with the greatest generation.
func TestOpenGeneration(t *testing.T) {
	for _, c := range []struct {
		first, second int // the generations of the heads; 0 if there is none
		want          []string
	}{
		{0, 1, []string{"odd 1"}}, {2, 0, []string{"even 2"}}, {2, 1, []string{"even 2"}}, {2, 3, []string{"odd 3"}},
		{4, 3, []string{"even 4"}}, {most - 1, most, []string{"odd most"}}, {most - 1, 1, []string{"even most"}}, {1 << 31, 1<<31 + 1, nil},
	} {
		d := fresh(t, 10)
		for gen, text := range map[int]string{1: "odd 1", 2: "even 2", 3: "odd 3", 4: "even 4", most: "odd most", most - 1: "even most"} {
			if gen == c.first || gen == c.second {
				put(t, d, 2+gen%2*4, run(t, gen, 9, framed(t, text))...)
			}
		}
		if c.first > 0 {
			put(t, d, 0, head(t, c.first, 5))
		}
		if c.second > 0 {
			put(t, d, 1, head(t, c.second, 4))
		}
		open(t, d, c.want...)
	}
}

// P6.1: a head must be whole, begin a run, say 01 and nothing else, and stand at its sector; without one a new journal is begun.
func TestOpenHeads(t *testing.T) {
	continued := head(t, 1, 1)
	continued[8] = 1
	torn := head(t, 1, 1)
	torn[63] = 1
	for name, cell := range map[string][]byte{
		"even generation": head(t, 2, 1), "not beginning": continued, "torn": torn,
		"other byte": run(t, 1, 1, []byte{2})[0], "no mark": run(t, 1, 1, []byte{0})[0],
		"two bytes": run(t, 1, 1, []byte{1, 0})[0], "two marks": run(t, 1, 1, []byte{1, 1})[0],
		"zeros": zeros, "ones": bytes.Repeat([]byte{1}, 64),
	} {
		d := fresh(t, 8)
		put(t, d, 1, cell)
		put(t, d, 5, run(t, 1, 1, framed(t, "old"))...)
		epoch, _ := strip.Front(cell)
		j := open(t, d)
		contains(t, d, 1, head(t, 1, max(1, epoch.Epoch)+1))
		room(t, j, 3)
		synced(t, j, name)
		open(t, d, name)
	}
	d := fresh(t, 8)
	put(t, d, 0, head(t, 1, 1))
	put(t, d, 5, run(t, 1, 1, framed(t, "old"))...)
	open(t, d)
	contains(t, d, 0, head(t, 1, 1), head(t, 1, 2))
}

// P6.1: a journal that is there is only read.
func TestOpenWritesNothing(t *testing.T) {
	d := fresh(t, 8)
	j := open(t, d)
	synced(t, j, "a", "b")
	before := sectors(t, d)
	ok(t, d.Fail(0, all, whole))
	for range 3 {
		room(t, open(t, d, "a", "b"), 1)
	}
	if !slices.Equal(sectors(t, d), before) || d.Waits() != 0 {
		t.Error("something was written")
	}
}

// P6.1: the cells in use are those that strip.Scan accepts from the head's stamp on, in the area alone; what remains of a run is ignored.
func TestOpenCells(t *testing.T) {
	long, exact := strings.Repeat("a", 100), strings.Repeat("a", 3*47-6)
	for name, c := range map[string]struct {
		cells [][]byte
		room  int
		want  []string
	}{
		"two of a run":       {run(t, 1, 5, framed(t, "a"), framed(t, "b")), 2, []string{"a", "b"}},
		"three runs":         {slices.Concat(run(t, 1, 5, framed(t, "a")), run(t, 1, 5, framed(t, "b")), run(t, 1, 8, framed(t, "c"))), 0, []string{"a", "b", "c"}},
		"smaller epoch":      {run(t, 1, 4, framed(t, "a")), 3, nil},
		"other generation":   {run(t, 3, 5, framed(t, "a")), 3, nil},
		"smaller one behind": {slices.Concat(run(t, 1, 6, framed(t, "a")), run(t, 1, 5, framed(t, "b"))), 2, []string{"a"}},
		"gap":                {slices.Concat(run(t, 1, 6, framed(t, "a")), [][]byte{zeros}, run(t, 1, 6, framed(t, "b"))), 2, []string{"a"}},
		"three cells":        {run(t, 1, 6, framed(t, long)), 0, []string{long}},
		"a full area":        {run(t, 1, 6, framed(t, exact)), 0, []string{exact}},
		"beyond the area":    {run(t, 1, 6, framed(t, "a"), framed(t, exact)), 0, []string{"a"}},
		"part of a frame":    {run(t, 1, 6, framed(t, "a"), framed(t, long))[:1], 2, []string{"a"}},
		"run behind a part":  {slices.Concat(run(t, 1, 6, framed(t, long))[:1], run(t, 1, 7, framed(t, "b"))), 1, []string{"b"}},
		"no payload's bytes": {run(t, 1, 6, framed(t, "")), 2, []string{""}},
	} {
		t.Run(name, func(t *testing.T) {
			// The area of odd generations is sectors 5 to 7; sector 8 isn't used.
			d := fresh(t, 9)
			put(t, d, 1, head(t, 1, 5))
			put(t, d, 5, c.cells...)
			room(t, open(t, d, c.want...), c.room)
		})
	}
	d := fresh(t, 9)
	put(t, d, 0, head(t, 2, 5))
	put(t, d, 2, run(t, 2, 5, framed(t, "a"), framed(t, exact))...)
	room(t, open(t, d, "a"), 0)
}

// P6.1: what is in a run must be frames.
func TestOpenDamaged(t *testing.T) {
	good, bad := framed(t, "abc"), framed(t, "abc")
	bad[2] ^= 1
	for name, c := range map[string]struct {
		b    []byte
		e    api.Errno
		want []string
	}{
		"sum":               {bad, api.ErrDisk, nil},
		"sum of the second": {slices.Concat(good, bad), api.ErrDisk, nil},
		"too long":          {[]byte("\xa0\x01a"), api.ErrDisk, nil},
		"number":            {[]byte("\x80\x00a"), api.ErrDisk, nil},
		"longest, cut":      {[]byte("\xa0\x00a"), api.OK, nil},
		"number, cut":       {[]byte("\xa0"), api.OK, nil},
		"cut":               {good[:6], api.OK, nil},
		"second cut":        {slices.Concat(good, bad[:6]), api.OK, []string{"abc"}},
	} {
		for n := range 3 {
			d := fresh(t, 10)
			runs := slices.Concat(slices.Repeat([][]byte{run(t, 2, 1, good)[0]}, n), run(t, 2, 1, c.b))
			put(t, d, 0, head(t, 2, 1))
			put(t, d, 2, runs...)
			before := sectors(t, d)
			if c.e != api.OK {
				openFails(t, d, c.e)
			} else {
				room(t, open(t, d, append(slices.Repeat([]string{"abc"}, n), c.want...)...), 4-len(runs))
			}
			if !slices.Equal(sectors(t, d), before) {
				t.Errorf("%s: something was written", name)
			}
		}
	}
}

// P6.2: a journal that is none.
func TestNilAndZeroJournals(t *testing.T) {
	for _, j := range []*journal.Journal{nil, {}} {
		for range 2 {
			for _, b := range [][]byte{nil, {1}, make([]byte, 9000)} {
				errs(t, api.ErrNil, j.Append(b), j.Sync(), j.Checkpoint(b))
			}
			counts(t, j, 0, 0)
			room(t, j, 0)
		}
	}
}

// P6.2: once the disk has returned an error, a journal is broken, even when the disk is alive again; its counts stay as they were.
func TestBroken(t *testing.T) {
	for name, call := range map[string]func(*journal.Journal) api.Errno{
		"Sync":       (*journal.Journal).Sync,
		"Checkpoint": func(j *journal.Journal) api.Errno { return j.Checkpoint([]byte("c")) },
	} {
		for n := range 3 {
			d := fresh(t, 20)
			j := open(t, d)
			synced(t, j, "a", "b")
			ok(t, j.Append([]byte("pending")), j.Append(make([]byte, 60)), d.Fail(n, 0, 0))
			errs(t, api.ErrDead, call(j))
			for range 2 {
				errs(t, api.ErrDead, j.Append(nil), j.Append(make([]byte, 9000)), j.Sync(), j.Checkpoint(nil), j.Checkpoint(make([]byte, 9000)))
				counts(t, j, 4, 2)
				room(t, j, 9-2-2)
				ok(t, d.Boot())
			}
			if d.Waits() != 0 {
				t.Errorf("%s: a broken journal writes", name)
			}
		}
	}
}

// P6.2: a disk that is dead without an error to a call breaks nothing.
func TestDeadDiskUnseen(t *testing.T) {
	d := fresh(t, 8)
	j := open(t, d)
	ok(t, d.Crash(0, 0), j.Sync(), j.Append([]byte("a")), j.Append([]byte("b")))
	errs(t, api.ErrLimit, j.Append(make([]byte, 8193)), j.Checkpoint(make([]byte, 8193)))
	errs(t, api.ErrFull, j.Append(make([]byte, 200)), j.Checkpoint(make([]byte, 200)))
	counts(t, j, 2, 0)
	room(t, j, 2)
	ok(t, d.Boot(), j.Sync())
	ok(t, d.Crash(0, 0))
	errs(t, api.ErrDead, j.Checkpoint(nil), j.Sync())
}

// P6.3: Append writes nothing, and what is pending grows frame by frame.
func TestAppend(t *testing.T) {
	d := fresh(t, 8)
	j := open(t, d)
	ok(t, d.Fail(0, all, whole))
	for i := range 3 * 47 / 5 {
		room(t, j, 3-strip.Count(5*i))
		ok(t, j.Append(nil))
		counts(t, j, i+1, 0)
	}
	errs(t, api.ErrFull, j.Append(nil))
	counts(t, j, 28, 0)
	if d.Waits() != 0 || d.Dead() {
		t.Error("something was written")
	}
	ok(t, d.Fail(-1, 0, 0))
	open(t, d)
}

// P6.3: the longest payload, and one that is longer; that it is too long counts before that there is no room.
func TestAppendLong(t *testing.T) {
	longest := strings.Repeat("x", 8192)
	d := fresh(t, 2+2*strip.Count(8198))
	j := open(t, d)
	errs(t, api.ErrLimit, j.Append(make([]byte, 8193)), j.Append(make([]byte, 1<<20)), j.Checkpoint(make([]byte, 8193)))
	synced(t, j, longest)
	room(t, j, 0)
	errs(t, api.ErrLimit, j.Append(make([]byte, 8193)))
	errs(t, api.ErrFull, j.Append(nil))
	open(t, d, longest)
	ok(t, j.Checkpoint([]byte(longest)))
	room(t, j, 0)
	open(t, d, longest)
	small := open(t, fresh(t, 1+2*strip.Count(8198)))
	errs(t, api.ErrFull, small.Append([]byte(longest)), small.Checkpoint([]byte(longest)))
	errs(t, api.ErrLimit, small.Append(make([]byte, 8193)), small.Checkpoint(make([]byte, 8193)))
	counts(t, small, 0, 0)
}

// P6.3: the run of all that is pending must fit in what is free, to the last byte.
func TestAppendFull(t *testing.T) {
	for n := range 4 * 47 {
		for first := range 3 {
			d := fresh(t, 10)
			j := open(t, d)
			used := 0
			for range first {
				synced(t, j, "s")
				used++
			}
			ok(t, j.Append([]byte("p")))
			fits := 6+frame.Size(n) <= 47*(4-used)
			switch e := j.Append(make([]byte, n)); {
			case fits && e != api.OK, !fits && e != api.ErrFull:
				t.Errorf("%d bytes behind %d cells: %d", n, used, e)
			case fits:
				room(t, j, 4-used-strip.Count(6+frame.Size(n)))
				counts(t, j, first+2, first)
			default:
				room(t, j, 4-used-1)
				counts(t, j, first+1, first)
			}
			ok(t, j.Sync())
		}
	}
}

// P6.4: nothing is done where nothing is pending, not even on the disk.
func TestSyncNothing(t *testing.T) {
	d := fresh(t, 8)
	j := open(t, d)
	synced(t, j, "a")
	ok(t, d.Write(7, make([]byte, 64)), d.Fail(0, 0, 0))
	ok(t, j.Sync(), j.Sync())
	if d.Waits() != 1 || d.Dead() {
		t.Error("the disk was used")
	}
	counts(t, j, 1, 1)
	room(t, j, 2)
}

// P6.4: what is pending is one run at the first free sector, written cell by cell and flushed once.
func TestSync(t *testing.T) {
	long := strings.Repeat("x", 100)
	d := fresh(t, 22)
	j := open(t, d)
	ok(t, j.Append([]byte("a")), j.Append(nil), d.Fail(2, 0, 0), j.Sync(), d.Fail(-1, 0, 0))
	ok(t, j.Append([]byte(long)), j.Append([]byte("b")), d.Fail(4, 0, 0), j.Sync(), d.Fail(-1, 0, 0))
	counts(t, j, 4, 4)
	room(t, j, 6)
	want := slices.Concat(run(t, 1, 1, framed(t, "a"), framed(t, "")), run(t, 1, 1, framed(t, long), framed(t, "b")), [][]byte{zeros})
	contains(t, d, 12, want...)
	j = open(t, d, "a", "", long, "b")
	synced(t, j, "c")
	contains(t, d, 16, run(t, 1, 2, framed(t, "c"))[0], zeros)
	contains(t, d, 0, slices.Concat([][]byte{zeros, head(t, 1, 1)}, slices.Repeat([][]byte{zeros}, 10))...)
	open(t, d, "a", "", long, "b", "c")
}

// P6.4: the cells are written in increasing order.
func TestSyncOrder(t *testing.T) {
	for n := range 4 {
		d := fresh(t, 12)
		j := open(t, d)
		ok(t, j.Append([]byte("a")), j.Append(make([]byte, 100)), d.Fail(n, all, whole))
		errs(t, api.ErrDead, j.Sync())
		ok(t, d.Boot())
		cells := run(t, 1, 1, framed(t, "a"), framed(t, string(make([]byte, 100))))
		contains(t, d, 7, append(slices.Clone(cells[:n]), zeros)...)
	}
}

// P6.5: the frame is written in the other area, then 01 at the other head, each flushed by itself.
func TestCheckpoint(t *testing.T) {
	long := strings.Repeat("x", 100)
	d := fresh(t, 12)
	j := open(t, d)
	synced(t, j, "a", "b")
	ok(t, j.Append([]byte("lost")), d.Fail(6, 0, 0), j.Checkpoint([]byte(long)))
	errs(t, api.ErrDead, d.Flush())
	ok(t, d.Boot())
	counts(t, j, 1, 1)
	room(t, j, 2)
	contains(t, d, 0, slices.Concat([][]byte{head(t, 2, 1), head(t, 1, 1)}, run(t, 2, 1, framed(t, long)), [][]byte{zeros, zeros})...)
	contains(t, d, 7, slices.Concat(run(t, 1, 1, framed(t, "a")), run(t, 1, 1, framed(t, "b")))...)
	ok(t, j.Append([]byte("c")), j.Sync())
	contains(t, d, 5, run(t, 2, 1, framed(t, "c"))...)
	j = open(t, d, long, "c")
	ok(t, j.Checkpoint(nil))
	contains(t, d, 0, head(t, 2, 1), head(t, 3, 2))
	contains(t, d, 7, slices.Concat(run(t, 3, 2, framed(t, "")), run(t, 1, 1, framed(t, "b")))...)
	room(t, j, 4)
	open(t, d, "")
}

// P6.5: the head is written only when the frame is durable.
func TestCheckpointOrder(t *testing.T) {
	for n := range 6 {
		d := fresh(t, 12)
		j := open(t, d)
		synced(t, j, "a")
		ok(t, d.Fail(n, all, whole))
		errs(t, api.ErrDead, j.Checkpoint(make([]byte, 100)))
		ok(t, d.Boot())
		cells := run(t, 2, 1, framed(t, string(make([]byte, 100))))
		contains(t, d, 2, append(slices.Clone(cells[:min(n, 3)]), zeros)...)
		if n < 5 {
			contains(t, d, 0, zeros)
			open(t, d, "a")
		} else {
			contains(t, d, 0, head(t, 2, 1))
			open(t, d, string(make([]byte, 100)))
		}
	}
}

// P6.5: the area of the next generation is as great as this one; one frame fits in it to the last byte, and whatever waits doesn't count.
func TestCheckpointFull(t *testing.T) {
	for n := range 4 * 47 {
		d := fresh(t, 8)
		j := open(t, d)
		ok(t, j.Append(make([]byte, 100)))
		before := sectors(t, d)
		if frame.Size(n) <= 3*47 {
			ok(t, j.Checkpoint(make([]byte, n)))
			counts(t, j, 1, 1)
			room(t, j, 3-strip.Count(frame.Size(n)))
			continue
		}
		errs(t, api.ErrFull, j.Checkpoint(make([]byte, n)))
		counts(t, j, 1, 0)
		room(t, j, 0)
		if !slices.Equal(sectors(t, d), before) {
			t.Errorf("%d bytes: something was written", n)
		}
		ok(t, j.Sync())
	}
}

// P6.5: behind the greatest generation there is none; errors of the argument count first.
func TestCheckpointGeneration(t *testing.T) {
	d := fresh(t, 8)
	put(t, d, 0, head(t, most-1, 1))
	j := open(t, d)
	synced(t, j, "a")
	ok(t, j.Checkpoint([]byte("b")))
	contains(t, d, 1, head(t, most, 2))
	for range 2 {
		ok(t, j.Append([]byte("c")))
		before := sectors(t, d)
		errs(t, api.ErrDisk, j.Checkpoint(nil), j.Checkpoint([]byte("d")))
		errs(t, api.ErrFull, j.Checkpoint(make([]byte, 200)))
		errs(t, api.ErrLimit, j.Checkpoint(make([]byte, 8193)))
		if !slices.Equal(sectors(t, d), before) || d.Waits() != 0 {
			t.Error("something was written")
		}
		ok(t, j.Sync())
	}
	counts(t, j, 3, 3)
	room(t, j, 0)
	j = open(t, d, "b", "c", "c")
	errs(t, api.ErrDisk, j.Checkpoint(nil))
}

// P6.6: what is pending counts as one run, which may need fewer cells than its payloads alone.
func TestCounts(t *testing.T) {
	d := fresh(t, 12)
	j := open(t, d)
	room(t, j, 5)
	for i, left := range []int{4, 4, 4, 3, 3, 3, 3, 2} {
		ok(t, j.Append([]byte("1234567")))
		counts(t, j, i+1, 0)
		room(t, j, left)
	}
	ok(t, j.Sync())
	counts(t, j, 8, 8)
	room(t, j, 2)
	ok(t, j.Append(nil))
	counts(t, j, 9, 8)
	room(t, j, 1)
	j = open(t, d, slices.Repeat([]string{"1234567"}, 8)...)
	room(t, j, 2)
}

// P6.7: what is handed in is only read, and may change afterwards; so may what is handed out.
func TestMemory(t *testing.T) {
	d := fresh(t, 20)
	j := open(t, d)
	store := []byte("abcdefgh")
	b := store[:3]
	ok(t, j.Append(b), j.Append(b))
	if string(store) != "abcdefgh" {
		t.Errorf("the argument is %q", store)
	}
	copy(store, "xxxxxxxx")
	ok(t, j.Append(store[:1]), j.Sync())
	copy(store, "yyyyyyyy")
	for range 2 {
		_, l, e := journal.Open(d)
		ok(t, e)
		if want := []string{"abc", "abc", "x"}; !slices.Equal(texts(l), want) {
			t.Errorf("%q instead of %q", texts(l), want)
		}
		for i := range l {
			l[i] = append(l[i], "zzz"...)
			copy(l[i], "zzz")
		}
		if string(l[1]) != "zzzzzz" || string(l[2]) != "zzzz"[:len(l[2])] {
			t.Errorf("payloads share memory: %q", l)
		}
	}
	ok(t, j.Checkpoint(store[:4]))
	if string(store) != "yyyyyyyy" {
		t.Errorf("the argument is %q", store)
	}
	copy(store, "wwww")
	open(t, d, "yyyy")
}

// P6.7: an error that isn't of the disk changes nothing, so whatever waits is synced behind it.
func TestErrorsChangeNothing(t *testing.T) {
	d := fresh(t, 8)
	j := open(t, d)
	synced(t, j, "a")
	ok(t, j.Append([]byte("b")))
	for range 3 {
		errs(t, api.ErrFull, j.Append(make([]byte, 90)), j.Checkpoint(make([]byte, 200)))
		errs(t, api.ErrLimit, j.Append(make([]byte, 8193)), j.Checkpoint(make([]byte, 8193)))
		counts(t, j, 2, 1)
		room(t, j, 1)
	}
	ok(t, j.Append([]byte("c")), j.Sync())
	open(t, d, "a", "b", "c")
}

// pair is a journal and the model of it, each on a disk of its own.
type pair struct {
	t      *testing.T
	d, own *disk.Disk
	j      *journal.Journal
	m      *model
}

// open opens both, and holds them against each other.
func (p *pair) open() {
	p.t.Helper()
	j, l, e := journal.Open(p.d)
	m, want, f := openModel(p.own)
	if e != f || !slices.Equal(texts(l), want) || (j == nil) != (m == nil) {
		p.t.Fatalf("Open: %q, %d instead of %q, %d", texts(l), e, want, f)
	}
	if j != nil {
		p.j, p.m = j, m
	}
}

// same holds the counts and the disks against each other.
func (p *pair) same() {
	p.t.Helper()
	if p.d.Dead() != p.own.Dead() || p.d.Waits() != p.own.Waits() {
		p.t.Fatalf("dead %t, %d writes instead of %t, %d", p.d.Dead(), p.d.Waits(), p.own.Dead(), p.own.Waits())
	}
	if !p.d.Dead() && !slices.Equal(sectors(p.t, p.d), sectors(p.t, p.own)) {
		p.t.Fatalf("disks: %x instead of %x", sectors(p.t, p.d), sectors(p.t, p.own))
	}
	if p.m != nil {
		counts(p.t, p.j, len(p.m.payloads), p.m.synced())
		room(p.t, p.j, p.m.room())
	}
}

// does is a call on both.
func (p *pair) does(r *random) (got, want api.Errno) {
	payload := r.bytes(r.below(1 + r.below(1+r.below(120))))
	if r.below(200) == 0 {
		payload = r.bytes(8190 + r.below(6))
	}
	text := string(payload)
	switch r.below(12) {
	case 0:
		return p.j.Checkpoint(payload), p.m.checkpoint(text)
	case 1, 2, 3:
		return p.j.Sync(), p.m.sync()
	case 4:
		n, bits, cut := r.below(9)-1, r.bits(), r.below(65)
		return p.d.Fail(n, bits, cut), p.own.Fail(n, bits, cut)
	case 5:
		bits, cut := r.bits(), r.below(65)
		if r.below(3) > 0 {
			return api.OK, api.OK
		}
		return p.d.Crash(bits, cut), p.own.Crash(bits, cut)
	}
	return p.j.Append(payload), p.m.append(text)
}

// P6.1 to P6.6: in random rows of calls, with power losses, a journal answers and writes what the definition says.
func TestByDefinition(t *testing.T) {
	r := random(61)
	for range 300 {
		n := 6 + r.below(20)
		p := &pair{t: t, d: fresh(t, n), own: fresh(t, n)}
		p.open()
		for range 150 {
			if got, want := p.does(&r); got != want {
				t.Fatalf("%d instead of %d", got, want)
			}
			p.same()
			if (p.d.Dead() || r.below(20) == 0) && r.below(3) > 0 {
				ok(t, p.d.Boot(), p.own.Boot())
				if r.below(4) == 0 {
					bits, cut := r.bits(), r.below(65)
					ok(t, p.d.Fail(r.below(1), bits, cut), p.own.Fail(0, bits, cut))
				}
				p.open()
				p.same()
			}
		}
	}
}

// P6.1 to P6.6: the same on disks whose sectors contain cells that the journal hasn't written.
func TestByDefinitionOnAnyDisk(t *testing.T) {
	r := random(62)
	for range 3000 {
		n := 6 + r.below(9)
		p := &pair{t: t, d: fresh(t, n), own: fresh(t, n)}
		for at := range n {
			b := strange(t, &r, at)
			put(t, p.d, at, b)
			put(t, p.own, at, b)
		}
		p.open()
		p.same()
		for range 12 {
			if p.j == nil || p.d.Dead() {
				break
			}
			if got, want := p.does(&r); got != want {
				t.Fatalf("%d instead of %d", got, want)
			}
			p.same()
		}
		ok(t, p.d.Boot(), p.own.Boot())
		p.open()
		p.same()
	}
}

// strange is some cell, often a valid one.
func strange(t *testing.T, r *random, at int) []byte {
	gen, epoch := 1+r.below(3), r.below(4)
	switch r.below(40) {
	case 0:
		gen = most - r.below(2)
	case 1:
		epoch = most - r.below(3)
	case 2:
		return zeros
	}
	b := []byte{1}
	if at > 1 || r.below(8) == 0 {
		b = framed(t, string(r.bytes(r.below(60))))
		b[r.below(len(b))] ^= byte(max(0, r.below(50)-48))
	}
	cells := run(t, gen, epoch, b)
	cell := cells[min(r.below(6)/5, len(cells)-1)]
	cell[r.below(64)] ^= byte(max(0, r.below(20)-18))
	return cell
}

// life is what may be found when a journal is opened again.
type life struct {
	synced []string // what must be there
	there  []string // what is there: these, and then what is pending
	alone  []string // the payload of a checkpoint that has not returned
}

// finds tells whether these payloads may be found.
func (l life) finds(payloads []string) bool {
	if l.alone != nil && slices.Equal(payloads, l.alone) {
		return true
	}
	n := len(payloads)
	return n >= len(l.synced) && n <= len(l.there) && slices.Equal(payloads, l.there[:n])
}

// story is a row of calls: a text is appended, one behind a ! is a checkpoint, an empty one is a sync.
type story []string

// play makes the calls up to the first error of the disk.
func (s story) play(j *journal.Journal, before []string) life {
	l := life{synced: before, there: slices.Clone(before)}
	for _, call := range s {
		switch {
		case call == "":
			if j.Sync() != api.OK {
				return l
			}
			l.synced = slices.Clone(l.there)
		case call[0] == '!':
			l.alone = []string{call[1:]}
			if j.Checkpoint([]byte(call[1:])) != api.OK {
				return l
			}
			l = life{synced: l.alone, there: slices.Clone(l.alone)}
		default:
			if j.Append([]byte(call)) == api.OK {
				l.there = append(l.there, call)
			}
		}
	}
	return l
}

// operations is how many operations the calls take.
func (s story) operations(t *testing.T, n int) int {
	d := fresh(t, n)
	j := open(t, d)
	const many = 1000
	ok(t, d.Fail(many, 0, 0))
	s.play(j, nil)
	left := 0
	for d.Flush() == api.OK {
		left++
	}
	return many - left
}

// P6.8: at every operation, with every choice of the pending writes and every tear, the journal is found as it must be, and goes on from there.
func TestPowerLoss(t *testing.T) {
	long, longer := strings.Repeat("l", 70), strings.Repeat("m", 120)
	for _, s := range []story{
		{"a", "", "b", "c", ""},
		{"a", "", long, "b", longer, "", "c"},
		{"a", "", "b", "!" + long, "c", ""},
		{long, "", "!a", "b", "!" + longer, "", "c", "", "!d"},
		{"!" + longer, "!" + long, "!" + longer, "a", long, ""},
	} {
		for n := range s.operations(t, 24) + 1 {
			for bits := range uint64(1 << 6) {
				for cut := range 65 {
					if cut%9 > 1 && bits != 1<<6-1 && cut != 56 && cut != 58 {
						continue
					}
					d := fresh(t, 24)
					j := open(t, d)
					ok(t, d.Fail(n, bits, cut))
					l := s.play(j, nil)
					d.Crash(bits, cut)
					ok(t, d.Boot())
					j2, found, e := journal.Open(d)
					if e != api.OK || !l.finds(texts(found)) {
						t.Fatalf("%q, %d operations, %b, %d: %q, %d instead of %v", s, n, bits, cut, texts(found), e, l)
					}
					ok(t, j2.Append([]byte("z")), j2.Sync())
					open(t, d, append(texts(found), "z")...)
				}
			}
		}
	}
}

// P6.8: over many lives on one disk, each ended by a power loss, also while the disk is opened.
func TestManyLives(t *testing.T) {
	r := random(63)
	for range 400 {
		d := fresh(t, 6+r.below(12))
		l := life{}
		for range 40 {
			if r.below(3) == 0 {
				ok(t, d.Fail(r.below(8), r.bits(), r.below(65)))
			}
			j, found, e := journal.Open(d)
			if e == api.OK {
				if !l.finds(texts(found)) {
					t.Fatalf("%q instead of %v", texts(found), l)
				}
				if !d.Dead() && r.below(2) == 0 {
					ok(t, d.Fail(r.below(12), r.bits(), r.below(65)))
				}
				l = some(&r).play(j, texts(found))
			} else if !d.Dead() {
				t.Fatalf("Open: %d", e)
			}
			d.Crash(r.bits(), r.below(65))
			ok(t, d.Boot())
		}
	}
}

// some is a random story.
func some(r *random) (s story) {
	for range r.below(12) {
		payload := "p" + strings.Repeat(string(rune('a'+r.below(26))), r.below(1+r.below(100)))
		switch r.below(6) {
		case 0, 1:
			s = append(s, "")
		case 2:
			s = append(s, "!"+payload)
		default:
			s = append(s, payload)
		}
	}
	return s
}

// P6.9: what is pending is lost if no pending write survives, whether its Sync has begun or not.
func TestPendingLost(t *testing.T) {
	for n := range 5 {
		d := fresh(t, 12)
		j := open(t, d)
		synced(t, j, "a", "b")
		ok(t, j.Append([]byte("c")), j.Append(make([]byte, 60)))
		if n < 4 {
			// Two writes and a flush: with n of them done, the next one is replaced, or Sync is not called.
			if n < 3 {
				ok(t, d.Fail(n, 0, whole))
				errs(t, api.ErrDead, j.Sync())
			} else {
				ok(t, d.Crash(0, whole))
			}
			ok(t, d.Boot())
			open(t, d, "a", "b")
			continue
		}
		ok(t, j.Sync(), d.Crash(0, whole), d.Boot())
		open(t, d, "a", "b", "c", string(make([]byte, 60)))
	}
}

// P6.9: a full journal accepts a checkpoint, and is not full then.
func TestFullCheckpoint(t *testing.T) {
	for _, n := range []int{6, 7, 12, 512} {
		for _, pending := range []bool{false, true} {
			d := fresh(t, n)
			j := open(t, d)
			for round := range 3 {
				for j.Append([]byte("abc")) == api.OK {
					if !pending {
						ok(t, j.Sync())
					}
				}
				room(t, j, 0)
				ok(t, j.Checkpoint([]byte{byte(round)}))
				room(t, j, (n-2)/2-1)
				counts(t, j, 1, 1)
				j = open(t, d, string([]byte{byte(round)}))
			}
		}
	}
}
