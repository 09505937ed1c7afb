package frame_test

import (
	"bytes"
	"encoding/binary"
	"hash/crc32"
	"math"
	"slices"
	"testing"

	"encore/api"
	"encore/bin"
	"encore/frame"
)

// most is how many bytes a payload may have.
const most = 8192

// random is a source of numbers that are the same in each run.
type random uint64

// below is a number from 0 to n - 1.
func (r *random) below(n int) int {
	*r = *r*6364136223846793005 + 1442695040888963407
	return int(uint64(*r>>33) % uint64(n))
}

// bytes are n bytes.
func (r *random) bytes(n int) []byte {
	b := make([]byte, n)
	for i := range b {
		b[i] = byte(r.below(256))
	}
	return b
}

// length is a number of at most 16383 by its definition.
func length(n int) []byte {
	if n < 128 {
		return []byte{byte(n)}
	}
	return []byte{0x80 | byte(n>>8), byte(n)}
}

// summed is b followed by its checksum.
func summed(b []byte) []byte {
	return binary.BigEndian.AppendUint32(bytes.Clone(b), crc32.Checksum(b, crc32.MakeTable(crc32.Castagnoli)))
}

// wrapped is a frame by its definition, of a payload of any length.
func wrapped(payload []byte) []byte {
	return summed(append(length(len(payload)), payload...))
}

// next is Next by its definition.
func next(b []byte) (payload, rest []byte, e api.Errno) {
	n, behind, e := bin.TakeNum(b)
	switch {
	case e != api.OK:
		return nil, nil, e
	case n > most:
		return nil, nil, api.ErrLimit
	case n+4 > len(behind):
		return nil, nil, api.ErrTrunc
	}
	size := len(b) - len(behind) + n + 4
	if !bytes.Equal(summed(b[:size-4]), b[:size]) {
		return nil, nil, api.ErrSum
	}
	return behind[:n], behind[n+4:], api.OK
}

// all is All by its definition.
func all(b []byte) (payloads [][]byte, left int, e api.Errno) {
	for len(b) > 0 {
		payload, rest, e := next(b)
		if e == api.ErrTrunc {
			break
		}
		if e != api.OK {
			return nil, 0, e
		}
		payloads, b = append(payloads, payload), rest
	}
	return payloads, len(b), api.OK
}

// same tells whether two lists have the same payloads.
func same(a, b [][]byte) bool { return slices.EqualFunc(a, b, bytes.Equal) }

// lengths are those of payloads about each place where something changes.
func lengths() []int {
	return []int{0, 1, 2, 3, 4, 5, 59, 60, 61, 126, 127, 128, 129, 130, 255, 256, 257, 4095, 4096, 8190, 8191, 8192}
}

func pack(t *testing.T, payload []byte) []byte {
	t.Helper()
	b, e := frame.Pack(payload)
	if e != api.OK {
		t.Fatalf("Pack of %d bytes: %d", len(payload), e)
	}
	return b
}

// fails holds what Next and All return for b against an error of which nothing else is returned.
func fails(t *testing.T, b []byte, want api.Errno) {
	t.Helper()
	if payload, rest, e := frame.Next(b); e != want || len(payload) > 0 || len(rest) > 0 {
		t.Errorf("Next of %d bytes: %d bytes, %d bytes, %d instead of %d", len(b), len(payload), len(rest), e, want)
	}
	left := len(b)
	if want == api.ErrTrunc {
		want = api.OK
	} else {
		left = 0
	}
	if l, n, e := frame.All(b); e != want || len(l) > 0 || n != left {
		t.Errorf("All of %d bytes: %d payloads, %d left, %d instead of %d", len(b), len(l), n, e, want)
	}
}

func TestExamples(t *testing.T) {
	if b, e := frame.Pack(nil); e != api.OK || !bytes.Equal(b, []byte("\x00\x52\x7d\x53\x51")) {
		t.Errorf("Pack: %x, %d", b, e)
	}
	for n, want := range map[int]int{127: 132, 128: 134, 8192: 8198, 8193: 0} {
		if got := frame.Size(n); got != want {
			t.Errorf("Size(%d): %d", n, got)
		}
	}
	fails(t, []byte("\x00\x52\x7d\x53"), api.ErrTrunc)
	fails(t, []byte("\x00\x52\x7d\x53\x50"), api.ErrSum)
}

// P4.1: Size is how long a frame is, and 0 where there is none.
func TestSize(t *testing.T) {
	for n := 0; n <= most; n++ {
		if got, want := frame.Size(n), len(length(n))+n+4; got != want {
			t.Fatalf("Size(%d): %d instead of %d", n, got, want)
		}
	}
	for _, n := range []int{-1, -2, -128, math.MinInt, most + 1, most + 2, 16384, api.MaxNumber, api.MaxNumber + 1, math.MaxInt} {
		if got := frame.Size(n); got != 0 {
			t.Errorf("Size(%d): %d", n, got)
		}
	}
}

// P4.1: a frame is the length, the payload and their checksum.
func TestPack(t *testing.T) {
	r := random(41)
	for _, n := range lengths() {
		payload := r.bytes(n)
		if b := pack(t, payload); !bytes.Equal(b, wrapped(payload)) || len(b) != frame.Size(n) {
			t.Errorf("Pack of %d bytes has %d bytes", n, len(b))
		}
	}
	if a, b := pack(t, nil), pack(t, []byte{}); !bytes.Equal(a, b) {
		t.Errorf("Pack of nil: %x, of no bytes: %x", a, b)
	}
}

// P4.1: a payload of too many bytes has no frame.
func TestPackTooMuch(t *testing.T) {
	for _, n := range []int{most + 1, most + 2, 16383, 16384, 1 << 20} {
		if b, e := frame.Pack(make([]byte, n)); e != api.ErrLimit || len(b) > 0 {
			t.Errorf("Pack of %d bytes: %d bytes, %d", n, len(b), e)
		}
	}
}

// P4.2: Next returns the payload and what follows its frame.
func TestNext(t *testing.T) {
	r := random(42)
	for _, n := range lengths() {
		for _, behind := range []int{0, 1, 3, 4, 5, 9, 1000} {
			payload, rest := r.bytes(n), r.bytes(behind)
			p, s, e := frame.Next(append(wrapped(payload), rest...))
			if e != api.OK || !bytes.Equal(p, payload) || !bytes.Equal(s, rest) {
				t.Errorf("Next of %d bytes in a frame and %d behind it: %d, %d, %d", n, behind, len(p), len(s), e)
			}
		}
	}
}

// P4.2: Next returns the errors of the length's number.
func TestNextLength(t *testing.T) {
	for text, want := range map[string]api.Errno{
		"":                                     api.ErrTrunc,
		"\x80":                                 api.ErrTrunc,
		"\xc0\x40":                             api.ErrTrunc,
		"\xff\xff\xff\xff\xff\xff\xff\xff":     api.ErrTrunc,
		"\x80\x00":                             api.ErrSyntax,
		"\x80\x7f":                             api.ErrSyntax,
		"\xc0\x00\x00":                         api.ErrSyntax,
		"\xc0\x20\x00":                         api.ErrSyntax,
		"\xff\xff\xff\xff\xff\xff\xff\xff\xff": api.ErrSyntax,
		"\xff\x00\x00\x00\x00\x00\x00\x00\x00": api.ErrSyntax,
		"\xfe\x20\x00\x00\x00\x00\x00\x00\x00": api.ErrSyntax,
		"\xfe\x1f\xff\xff\xff\xff\xff\xff":     api.ErrLimit,
		"\xa0\x01":                             api.ErrLimit,
		"\xa0\x01\x00\x00\x00\x00":             api.ErrLimit,
		"\xbf\xff":                             api.ErrLimit,
		"\xc0\x40\x00":                         api.ErrLimit,
		"\xc0\x40\x00\x00\x00\x00\x00\x00\x00": api.ErrLimit,
	} {
		fails(t, []byte(text), want)
	}
	// A non-shortest length is wrong even where the checksum is right.
	fails(t, summed([]byte{0x80, 0x00}), api.ErrSyntax)
}

// P4.2: a frame of too long a payload is an error, even a whole one; the longest one is none.
func TestNextTooLong(t *testing.T) {
	fails(t, wrapped(make([]byte, most+1)), api.ErrLimit)
	fails(t, wrapped(make([]byte, most+1))[:2], api.ErrLimit)
	fails(t, wrapped(make([]byte, 16383)), api.ErrLimit)
	if p, _, e := frame.Next(wrapped(make([]byte, most))); len(p) != most || e != api.OK {
		t.Errorf("Next of the longest payload: %d bytes, %d", len(p), e)
	}
}

// P4.2: a frame of which bytes are missing is reported so, whatever the others are.
func TestNextCutOff(t *testing.T) {
	r := random(43)
	for _, n := range []int{0, 1, 2, 60, 127, 128, 300} {
		whole := wrapped(r.bytes(n))
		for i := range whole {
			fails(t, whole[:i], api.ErrTrunc)
		}
		// What is behind the end in memory does not belong to the frame, and a damaged frame is cut off first of all.
		whole[len(whole)-3] ^= 1
		fails(t, whole[:len(whole)-1:len(whole)-1], api.ErrTrunc)
		fails(t, whole, api.ErrSum)
	}
}

// P4.2: the checksum is that of the length and the payload, most significant byte first.
func TestNextSum(t *testing.T) {
	payload := []byte("abc")
	good := wrapped(payload)
	alone := binary.BigEndian.AppendUint32([]byte("\x03abc"), crc32.Checksum(payload, crc32.MakeTable(crc32.Castagnoli)))
	turned := append(bytes.Clone(good[:4]), good[7], good[6], good[5], good[4])
	for _, b := range [][]byte{alone, turned, []byte("\x03abc\x00\x00\x00\x00"), []byte("\x03abc\xff\xff\xff\xff")} {
		fails(t, b, api.ErrSum)
		fails(t, append(bytes.Clone(b), good...), api.ErrSum)
	}
}

// P4.3: All returns the payloads of complete frames, and how many bytes remain.
func TestAll(t *testing.T) {
	if l, left, e := frame.All(nil); len(l) != 0 || left != 0 || e != api.OK {
		t.Errorf("All of nothing: %d, %d, %d", len(l), left, e)
	}
	var b []byte
	var want [][]byte
	r := random(44)
	for _, n := range lengths() {
		payload := r.bytes(n)
		want, b = append(want, payload), append(b, wrapped(payload)...)
		if l, left, e := frame.All(b); !same(l, want) || left != 0 || e != api.OK {
			t.Fatalf("All of %d frames: %d, %d, %d", len(want), len(l), left, e)
		}
		// 80 announces a byte that is missing, 09 ten of them and a checksum.
		for _, tail := range []string{"\x80", "\x09", "\x09abc", "\xa0", "\xff", "\x00abc"} {
			if l, left, e := frame.All(append(bytes.Clone(b), tail...)); !same(l, want) || left != len(tail) || e != api.OK {
				t.Fatalf("All of %d frames and %q: %d, %d, %d", len(want), tail, len(l), left, e)
			}
		}
	}
}

// P4.3: where Next returns another error, All returns that error and nothing else, wherever it is.
func TestAllErrors(t *testing.T) {
	for tail, want := range map[string]api.Errno{"\x80\x00": api.ErrSyntax, "\xa0\x01": api.ErrLimit, "\x00\x52\x7d\x53\x50": api.ErrSum} {
		var b []byte
		for n := range 4 {
			for _, more := range [][]byte{nil, {0}, wrapped([]byte("more"))} {
				l, left, e := frame.All(slices.Concat(b, []byte(tail), more))
				if len(l) > 0 || left != 0 || e != want {
					t.Errorf("All of %d frames, %q and %d bytes: %d, %d, %d", n, tail, len(more), len(l), left, e)
				}
			}
			b = append(b, wrapped(make([]byte, 100*n))...)
		}
	}
}

// P4.3: many short frames are taken off without going through the remaining bytes for each.
func TestAllMany(t *testing.T) {
	const n = 400_000
	l, left, e := frame.All(append(bytes.Repeat(wrapped([]byte{7}), n), 5))
	if len(l) != n || left != 1 || e != api.OK {
		t.Errorf("All: %d, %d, %d", len(l), left, e)
	}
}

// P4.2, P4.3: on frames with something changed here and there, the calls answer as the definition does.
func TestByDefinition(t *testing.T) {
	r := random(45)
	for range 3000 {
		var b []byte
		for range r.below(4) {
			b = append(b, wrapped(r.bytes(r.below(200)))...)
		}
		b = append(b, r.bytes(r.below(5))...)
		for range r.below(3) {
			if len(b) > 0 {
				b[r.below(len(b))] = byte(r.below(256))
			}
		}
		b = b[:len(b)-r.below(len(b)+1)/3]
		p, s, e := frame.Next(b)
		if wantP, wantS, want := next(b); !bytes.Equal(p, wantP) || !bytes.Equal(s, wantS) || e != want {
			t.Fatalf("Next of %x: %x, %x, %d instead of %x, %x, %d", b, p, s, e, wantP, wantS, want)
		}
		l, left, e := frame.All(b)
		if wantL, wantLeft, want := all(b); !same(l, wantL) || left != wantLeft || e != want {
			t.Fatalf("All of %x: %x, %d, %d instead of %x, %d, %d", b, l, left, e, wantL, wantLeft, want)
		}
	}
}

// spare is b with room behind it, filled with a mark; marked tells whether nothing of both has changed.
func spare(b []byte) []byte {
	l := append(bytes.Clone(b), bytes.Repeat([]byte{0xee}, 32)...)
	return l[:len(b)]
}

func marked(b, was []byte) bool {
	return bytes.Equal(b, was) && bytes.Equal(b[:len(b)+32][len(b):], bytes.Repeat([]byte{0xee}, 32))
}

// overwrite fills b, with its room, with another mark.
func overwrite(b []byte) {
	b = b[:cap(b)]
	for i := range b {
		b[i] = 0xdd
	}
}

// P4.4: Pack only reads its argument, and its result is new memory.
func TestPackMemory(t *testing.T) {
	for _, n := range []int{0, 1, 100, 200} {
		was := bytes.Repeat([]byte{5}, n)
		payload := spare(was)
		b := pack(t, payload)
		if !marked(payload, was) {
			t.Error("Pack changes its argument")
		}
		overwrite(b)
		if !marked(payload, was) {
			t.Error("Pack's result is its argument's memory")
		}
		b = pack(t, payload)
		overwrite(payload)
		if !bytes.Equal(b, wrapped(was)) {
			t.Error("Pack's result changes with its argument")
		}
	}
}

// P4.4: Next only reads its argument, and its results are new memory, each of its own.
func TestNextMemory(t *testing.T) {
	was := slices.Concat(wrapped([]byte("one")), []byte("rest"))
	b := spare(was)
	payload, rest, _ := frame.Next(b)
	if !marked(b, was) {
		t.Error("Next changes its argument")
	}
	overwrite(payload)
	if !marked(b, was) || string(rest) != "rest" {
		t.Error("Next's payload is other memory's")
	}
	payload, rest, _ = frame.Next(b)
	overwrite(rest)
	if !marked(b, was) || string(payload) != "one" {
		t.Error("Next's rest is other memory's")
	}
	payload, rest, _ = frame.Next(b)
	overwrite(b)
	if string(payload) != "one" || string(rest) != "rest" {
		t.Error("Next's results change with its argument")
	}
}

// P4.4: All only reads its argument, and its payloads are new memory, each of its own.
func TestAllMemory(t *testing.T) {
	was := slices.Concat(wrapped([]byte("one")), wrapped(nil), wrapped([]byte("two")), []byte{9})
	b := spare(was)
	for i := range 3 {
		l, _, _ := frame.All(b)
		overwrite(l[i])
		for j, want := range []string{"one", "", "two"} {
			if i != j && string(l[j]) != want {
				t.Errorf("payloads %d and %d share memory", i, j)
			}
		}
		if !marked(b, was) {
			t.Fatal("All changes its argument, or its result is its memory")
		}
	}
	l, _, _ := frame.All(b)
	overwrite(b)
	if string(l[0]) != "one" || string(l[2]) != "two" {
		t.Error("All's payloads change with its argument")
	}
}

// P4.5: frames that are cut off anywhere are unwrapped as far as they are complete.
func TestCutOffAnywhere(t *testing.T) {
	r := random(46)
	var payloads [][]byte
	var b []byte
	var ends []int
	for _, n := range []int{3, 0, 127, 1, 128, 0, 200} {
		payloads = append(payloads, r.bytes(n))
		b = append(b, pack(t, payloads[len(payloads)-1])...)
		ends = append(ends, len(b))
	}
	for i := range len(b) + 1 {
		complete, end := 0, 0
		for complete < len(ends) && ends[complete] <= i {
			end = ends[complete]
			complete++
		}
		if l, left, e := frame.All(b[:i]); !same(l, payloads[:complete]) || left != i-end || e != api.OK {
			t.Fatalf("All of %d bytes: %d payloads, %d left, %d", i, len(l), left, e)
		}
	}
}

// P4.5: wrapping what was unwrapped returns the same frame, whatever bytes it was unwrapped from.
func TestWrappedAgain(t *testing.T) {
	r := random(47)
	for range 2000 {
		b := r.bytes(r.below(12))
		if len(b) > 0 {
			b[0] &= 0x87
		}
		if r.below(2) == 0 {
			b = append(wrapped(b), r.bytes(r.below(3))...)
		}
		payload, rest, e := frame.Next(b)
		if e == api.OK && !bytes.Equal(append(pack(t, payload), rest...), b) {
			t.Fatalf("Next of %x: %x, %x", b, payload, rest)
		}
	}
}

// P4.6: one flipped bit after the length is noticed.
func TestFlippedBit(t *testing.T) {
	r := random(48)
	for _, n := range []int{0, 1, 2, 60, 127, 128, 500} {
		b := pack(t, r.bytes(n))
		for i := len(length(n)); i < len(b); i++ {
			for bit := range 8 {
				b[i] ^= 1 << bit
				fails(t, b, api.ErrSum)
				b[i] ^= 1 << bit
			}
		}
	}
	b := pack(t, r.bytes(most))
	for range 200 {
		i, bit := 2+r.below(len(b)-2), r.below(8)
		b[i] ^= 1 << bit
		fails(t, b, api.ErrSum)
		b[i] ^= 1 << bit
	}
}
