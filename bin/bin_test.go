package bin_test

import (
	"bytes"
	"encoding/hex"
	"math"
	"strconv"
	"strings"
	"testing"

	"encore/api"
	"encore/bin"
)

// eightBytes is the greatest value of an encoding of eight bytes.
const eightBytes = 1<<56 - 1

// byDefinition is the encoding of v in so many bytes: ones, a zero, and v in the bits that are left; it is not held against a shorter one.
func byDefinition(v uint64, size int) []byte {
	digits := strconv.FormatUint(v, 2)
	head := strings.Repeat("1", size-1) + "0"
	if size == 9 {
		head = "11111111"
	}
	digits = head + strings.Repeat("0", 8*size-len(head)-len(digits)) + digits
	b := make([]byte, size)
	for i := range b {
		c, _ := strconv.ParseUint(digits[8*i:8*i+8], 2, 8)
		b[i] = byte(c)
	}
	return b
}

// holds tells whether so many bytes have room for v.
func holds(size int, v uint64) bool { return size == 9 || v>>(7*size) == 0 }

// shortest is the encoding of v by its definition.
func shortest(v uint64) []byte {
	size := 1
	for !holds(size, v) {
		size++
	}
	return byDefinition(v, size)
}

// zigzag is the zigzag value of n by its definition.
func zigzag(n int) uint64 {
	if n >= 0 {
		return 2 * uint64(n)
	}
	return 2*(-uint64(n)) - 1
}

// values are those about each power of two, and mixed ones.
func values() []uint64 {
	l := []uint64{0, 1, 2, math.MaxUint64, math.MaxUint64 - 1, api.MaxNumber, api.MaxNumber + 1, 0x0123456789abcdef, 0xfedcba9876543210}
	for i := 2; i < 64; i++ {
		l = append(l, 1<<i-1, 1<<i, 1<<i+1)
	}
	seed := uint64(1)
	for i := range 500 {
		seed = seed*6364136223846793005 + 1442695040888963407
		l = append(l, seed>>(i%64))
	}
	return l
}

// numbers are those of values that are numbers.
func numbers() []int {
	var l []int
	for _, v := range values() {
		if v <= api.MaxNumber {
			l = append(l, int(v))
		}
	}
	return l
}

// integers are values of both signs.
func integers() []int {
	l := []int{math.MinInt, math.MinInt + 1, math.MaxInt, math.MaxInt - 1}
	for _, v := range values() {
		l = append(l, int(v), -int(v))
	}
	return l
}

func unhex(t *testing.T, s string) []byte {
	t.Helper()
	b, err := hex.DecodeString(strings.ReplaceAll(s, " ", ""))
	if err != nil {
		t.Fatal(err)
	}
	return b
}

func TestExamples(t *testing.T) {
	for n, want := range map[int]string{0: "00", 127: "7f", 128: "80 80", 16384: "c0 40 00"} {
		if b, e := bin.Num(n); e != api.OK || !bytes.Equal(b, unhex(t, want)) {
			t.Errorf("Num(%d): %x, %d", n, b, e)
		}
	}
	for n, want := range map[int]string{-1: "01", 64: "80 80", math.MinInt: "ff ff ff ff ff ff ff ff ff"} {
		if b := bin.Int(n); !bytes.Equal(b, unhex(t, want)) {
			t.Errorf("Int(%d): %x", n, b)
		}
	}
	if b, e := bin.Text("ab", 2); e != api.OK || !bytes.Equal(b, unhex(t, "02 61 62")) {
		t.Errorf("Text(ab, 2): %x, %d", b, e)
	}
	if b, e := bin.Text("ab", 1); e != api.ErrLimit || len(b) > 0 {
		t.Errorf("Text(ab, 1): %x, %d", b, e)
	}
	for text, want := range map[string]api.Errno{"80 7f": api.ErrSyntax, "80": api.ErrTrunc, "ff ff ff ff ff ff ff ff ff": api.ErrSyntax} {
		if n, rest, e := bin.TakeNum(unhex(t, text)); n != 0 || len(rest) > 0 || e != want {
			t.Errorf("TakeNum of %s: %d, %x, %d", text, n, rest, e)
		}
	}
}

// P2.1: numbers, at the ends of each size and between them.
func TestNum(t *testing.T) {
	for _, n := range numbers() {
		if b, e := bin.Num(n); e != api.OK || !bytes.Equal(b, shortest(uint64(n))) {
			t.Errorf("%d: %x, %d, not %x", n, b, e, shortest(uint64(n)))
		}
	}
	for size := 1; size < 8; size++ {
		last := 1<<(7*size) - 1
		b, _ := bin.Num(last)
		c, _ := bin.Num(last + 1)
		if len(b) != size || len(c) != size+1 {
			t.Errorf("%d takes %d bytes, the next number %d", last, len(b), len(c))
		}
	}
	if b, e := bin.Num(api.MaxNumber); e != api.OK || !bytes.Equal(b, unhex(t, "fe 1f ff ff ff ff ff ff")) {
		t.Errorf("MaxNumber: %x, %d", b, e)
	}
}

// P2.1: what is no number.
func TestNumOutOfRange(t *testing.T) {
	for _, n := range []int{-1, -2, -128, math.MinInt, api.MaxNumber + 1, 1 << 56, math.MaxInt} {
		if b, e := bin.Num(n); e != api.ErrRange || len(b) > 0 {
			t.Errorf("%d: %x, %d", n, b, e)
		}
	}
}

// P2.1: integers of both signs, those of more than 56 bits among them.
func TestInt(t *testing.T) {
	for n, want := range map[int]string{0: "00", 1: "02", -2: "03", 2: "04", 63: "7e", -64: "7f", -65: "80 81",
		1<<55 - 1: "fe ff ff ff ff ff ff fe", -1 << 55: "fe ff ff ff ff ff ff ff", 1 << 55: "ff 01 00 00 00 00 00 00 00",
		math.MaxInt: "ff ff ff ff ff ff ff ff fe"} {
		if b := bin.Int(n); !bytes.Equal(b, unhex(t, want)) {
			t.Errorf("%d: %x, not %s", n, b, want)
		}
	}
	for _, n := range integers() {
		if b := bin.Int(n); !bytes.Equal(b, shortest(zigzag(n))) {
			t.Errorf("%d: %x, not %x", n, b, shortest(zigzag(n)))
		}
	}
}

// texts are strings of many lengths, of any bytes.
func texts() []string {
	l := []string{"", "a", "\x00", "\xff\xfe\x80", "wörter", strings.Repeat("\x80", 127)}
	for _, n := range []int{126, 127, 128, 129, 1000, 16383, 16384, 16385, 1 << 17} {
		b := make([]byte, n)
		for i := range b {
			b[i] = byte(i * 7)
		}
		l = append(l, string(b))
	}
	return l
}

// P2.1: strings, and how many bytes they may have.
func TestText(t *testing.T) {
	for _, s := range texts() {
		want := append(shortest(uint64(len(s))), s...)
		for _, most := range []int{len(s), len(s) + 1, api.MaxNumber, math.MaxInt} {
			if b, e := bin.Text(s, most); e != api.OK || !bytes.Equal(b, want) {
				t.Errorf("%d bytes, %d at most: %d bytes, %d", len(s), most, len(b), e)
			}
		}
		for _, most := range []int{len(s) - 1, -1, math.MinInt} {
			if b, e := bin.Text(s, most); e != api.ErrLimit || len(b) > 0 {
				t.Errorf("%d bytes, %d at most: %d bytes, %d", len(s), most, len(b), e)
			}
		}
	}
}

// tails are what may lie behind an encoding.
func tails() [][]byte {
	return [][]byte{nil, {0}, {255}, {128, 1}, bytes.Repeat([]byte{7}, 100)}
}

// P2.2 and P2.5: what was encoded comes back, and the remaining bytes with it.
func TestNumbersComeBack(t *testing.T) {
	for _, tail := range tails() {
		for _, n := range numbers() {
			b, _ := bin.Num(n)
			if got, rest, e := bin.TakeNum(append(b, tail...)); got != n || e != api.OK || !bytes.Equal(rest, tail) {
				t.Errorf("%d before %x: %d, %x, %d", n, tail, got, rest, e)
			}
		}
		for _, n := range integers() {
			if got, rest, e := bin.TakeInt(append(bin.Int(n), tail...)); got != n || e != api.OK || !bytes.Equal(rest, tail) {
				t.Errorf("%d before %x: %d, %x, %d", n, tail, got, rest, e)
			}
		}
	}
}

// refused holds both decoders of numbers to an error, with nothing beside it.
func refused(t *testing.T, b []byte, want api.Errno) {
	t.Helper()
	if n, rest, e := bin.TakeNum(b); n != 0 || len(rest) > 0 || e != want {
		t.Errorf("TakeNum of %x: %d, %x, %d, not %d", b, n, rest, e, want)
	}
	if n, rest, e := bin.TakeInt(b); n != 0 || len(rest) > 0 || e != want {
		t.Errorf("TakeInt of %x: %d, %x, %d, not %d", b, n, rest, e, want)
	}
}

// P2.2: bytes that are missing count before those that are too many.
func TestTruncatedNumbers(t *testing.T) {
	refused(t, nil, api.ErrTrunc)
	refused(t, []byte{}, api.ErrTrunc)
	for following := 1; following <= 8; following++ {
		for _, fill := range []byte{0, 1, 127, 128, 255} {
			for _, low := range []byte{0, 255} {
				first := ^(byte(255) >> following) | low&(127>>following)
				for n := range following {
					refused(t, append([]byte{first}, bytes.Repeat([]byte{fill}, n)...), api.ErrTrunc)
				}
			}
		}
	}
}

// P2.2: each value in more bytes than it needs.
func TestLongerEncodings(t *testing.T) {
	for _, v := range values() {
		for size := len(shortest(v)) + 1; size <= 9; size++ {
			for _, tail := range tails() {
				refused(t, append(byDefinition(v, size), tail...), api.ErrSyntax)
			}
		}
	}
}

// P2.2: what is an integer may be too great for a number.
func TestNumbersTooGreat(t *testing.T) {
	for _, v := range append(values(), eightBytes, eightBytes+1) {
		n, rest, e := bin.TakeNum(append(shortest(v), 9))
		if v <= api.MaxNumber {
			if uint64(n) != v || len(rest) != 1 || e != api.OK {
				t.Errorf("%d: %d, %x, %d", v, n, rest, e)
			}
		} else if n != 0 || len(rest) > 0 || e != api.ErrSyntax {
			t.Errorf("%d: %d, %x, %d", v, n, rest, e)
		}
		if i, rest, e := bin.TakeInt(append(shortest(v), 9)); zigzag(i) != v || len(rest) != 1 || e != api.OK {
			t.Errorf("zigzag value %d: %d, %x, %d", v, i, rest, e)
		}
	}
}

// P2.3 and P2.5: strings come back, with the remaining bytes.
func TestTextsComeBack(t *testing.T) {
	for _, s := range texts() {
		b, _ := bin.Text(s, len(s))
		for _, tail := range tails() {
			for _, most := range []int{len(s), len(s) + 1, math.MaxInt} {
				got, rest, e := bin.TakeText(append(bytes.Clone(b), tail...), most)
				if got != s || e != api.OK || !bytes.Equal(rest, tail) {
					t.Errorf("%d bytes before %x, %d at most: %d bytes, %x, %d", len(s), tail, most, len(got), rest, e)
				}
			}
		}
	}
}

// P2.3: the errors, and which of two comes first.
func TestTakeTextErrors(t *testing.T) {
	for _, c := range []struct {
		text string
		most int
		want api.Errno
	}{
		{"", 4, api.ErrTrunc},
		{"", -1, api.ErrTrunc},
		{"80", 4, api.ErrTrunc},
		{"c0 00", 0, api.ErrTrunc},
		{"80 01 61", 4, api.ErrSyntax},
		{"80 01 61", -1, api.ErrSyntax},
		{"fe 20 00 00 00 00 00 00", math.MaxInt, api.ErrSyntax},
		{"fe 20 00 00 00 00 00 00", 0, api.ErrSyntax},
		{"ff 01 00 00 00 00 00 00 00", math.MaxInt, api.ErrSyntax},
		{"ff ff ff ff ff ff ff ff ff", math.MaxInt, api.ErrSyntax},
		{"05 61 62 63 64 65", 4, api.ErrLimit},
		{"05 61 62", 4, api.ErrLimit},
		{"05", 4, api.ErrLimit},
		{"00", -1, api.ErrLimit},
		{"00", math.MinInt, api.ErrLimit},
		{"01 61", 0, api.ErrLimit},
		{"fe 1f ff ff ff ff ff ff", 1 << 20, api.ErrLimit},
		{"fe 1f ff ff ff ff ff ff", api.MaxNumber - 1, api.ErrLimit},
		{"fe 1f ff ff ff ff ff ff", api.MaxNumber, api.ErrTrunc},
		{"fe 1f ff ff ff ff ff ff 61", math.MaxInt, api.ErrTrunc},
		{"03 61 62", 4, api.ErrTrunc},
		{"03 61 62", 3, api.ErrTrunc},
		{"01", 1, api.ErrTrunc},
		{"80 80 61", 128, api.ErrTrunc},
	} {
		if s, rest, e := bin.TakeText(unhex(t, c.text), c.most); s != "" || len(rest) > 0 || e != c.want {
			t.Errorf("%s, %d at most: %q, %x, %d, not %d", c.text, c.most, s, rest, e, c.want)
		}
	}
}

// takers are the decoders, each with what it takes off left out.
func takers() map[string]func(b []byte) ([]byte, api.Errno) {
	return map[string]func(b []byte) ([]byte, api.Errno){
		"TakeNum":  func(b []byte) ([]byte, api.Errno) { _, rest, e := bin.TakeNum(b); return rest, e },
		"TakeInt":  func(b []byte) ([]byte, api.Errno) { _, rest, e := bin.TakeInt(b); return rest, e },
		"TakeText": func(b []byte) ([]byte, api.Errno) { _, rest, e := bin.TakeText(b, 9); return rest, e },
	}
}

// P2.4: what a decoder is given stays, and shares nothing with what it answers.
func TestRemainingBytesAreNewMemory(t *testing.T) {
	for name, take := range takers() {
		all := []byte{9, 2, 'a', 'b', 5, 6, 7, 8, 10, 11}
		before := bytes.Clone(all)
		b := all[1:8]
		rest, e := take(b)
		again, _ := take(b)
		if e != api.OK || len(rest) < 4 || !bytes.HasSuffix(b, rest) {
			t.Fatalf("%s: %x, %d", name, rest, e)
		}
		want := bytes.Clone(rest)
		_ = append(rest, 77, 78)
		_ = append(rest[:1], 79)
		clear(rest)
		if !bytes.Equal(all, before) {
			t.Errorf("%s: the remaining bytes lie in the argument: %x", name, all)
		}
		if !bytes.Equal(again, want) {
			t.Errorf("%s: two answers share memory: %x", name, again)
		}
		clear(b)
		if !bytes.Equal(again, want) {
			t.Errorf("%s: the argument lies in the remaining bytes: %x", name, again)
		}
	}
}

// P2.4 and section Ways: behind the remaining bytes nothing of them is left to be written on.
func TestRemainingBytesHaveNoRoom(t *testing.T) {
	for name, take := range takers() {
		for n := range 40 {
			rest, _ := take(append([]byte{1, 'a'}, make([]byte, n)...))
			if cap(rest) != len(rest) {
				t.Errorf("%s: %d remaining bytes and room for %d", name, len(rest), cap(rest))
			}
		}
	}
}

// P2.4: the string stays as it was taken.
func TestTakenTextIsNewMemory(t *testing.T) {
	b := []byte{2, 'a', 'b', 'c'}
	s, rest, _ := bin.TakeText(b, 2)
	clear(b)
	clear(rest)
	if s != "ab" {
		t.Errorf("%q", s)
	}
}

// P2.4: no two encodings share memory.
func TestEncodingsAreNewMemory(t *testing.T) {
	for name, encode := range map[string]func() []byte{
		"Num":  func() []byte { b, _ := bin.Num(5); return b },
		"Int":  func() []byte { return bin.Int(1 << 60) },
		"Text": func() []byte { b, _ := bin.Text("abc", 3); return b },
	} {
		first, second := encode(), encode()
		want := bytes.Clone(second)
		_ = append(first, 1, 2, 3)
		clear(first)
		if !bytes.Equal(second, want) || !bytes.Equal(encode(), want) {
			t.Errorf("%s: %x, not %x", name, second, want)
		}
	}
}

// P2.5: a proper prefix is not decoded.
func TestPrefixes(t *testing.T) {
	for _, n := range numbers() {
		b, _ := bin.Num(n)
		for i := range b {
			refused(t, b[:i], api.ErrTrunc)
		}
	}
	for _, n := range integers() {
		b := bin.Int(n)
		for i := range b {
			refused(t, b[:i], api.ErrTrunc)
		}
	}
	for _, s := range texts() {
		b, _ := bin.Text(s, len(s))
		for i := 0; i < len(b); i += 1 + i/50 {
			if got, rest, e := bin.TakeText(b[:i], len(s)); got != "" || len(rest) > 0 || e != api.ErrTrunc {
				t.Errorf("%d bytes of a text of %d: %d, %d, %d", i, len(s), len(got), len(rest), e)
			}
		}
	}
}

// sameAgain encodes what b starts with, and holds it against b.
func sameAgain(t *testing.T, b []byte) {
	t.Helper()
	if n, rest, e := bin.TakeNum(b); e == api.OK {
		if again, f := bin.Num(n); f != api.OK || !bytes.Equal(append(again, rest...), b) {
			t.Errorf("TakeNum of %x: %d, %x", b, n, rest)
		}
	}
	if n, rest, e := bin.TakeInt(b); e == api.OK && !bytes.Equal(append(bin.Int(n), rest...), b) {
		t.Errorf("TakeInt of %x: %d, %x", b, n, rest)
	}
	if s, rest, e := bin.TakeText(b, len(b)); e == api.OK {
		if again, f := bin.Text(s, len(b)); f != api.OK || !bytes.Equal(append(again, rest...), b) {
			t.Errorf("TakeText of %x: %q, %x", b, s, rest)
		}
	}
}

// P2.5: whatever is decoded is encoded as it was: all rows of two bytes, and longer ones behind each first byte.
func TestDecodedValuesAreEncodedAlike(t *testing.T) {
	for i := range 1 << 16 {
		sameAgain(t, []byte{byte(i >> 8), byte(i)})
		sameAgain(t, []byte{192 | byte(i>>15&1), byte(i >> 8), byte(i)})
	}
	seed := uint64(7)
	for i := range 1 << 16 {
		b := []byte{byte(i)}
		for n := range i >> 8 % 16 {
			seed = seed*6364136223846793005 + 1442695040888963407
			b = append(b, byte(seed>>56)>>(n%3*i%8))
		}
		sameAgain(t, b)
	}
}

// P2.6: numbers and their encodings are ordered alike.
func TestOrder(t *testing.T) {
	l := numbers()
	for _, n := range l {
		a, _ := bin.Num(n)
		for _, m := range l {
			b, _ := bin.Num(m)
			if (n < m) != (bytes.Compare(a, b) < 0) || (n == m) != bytes.Equal(a, b) {
				t.Fatalf("%d and %d: %x and %x", n, m, a, b)
			}
		}
	}
}
