package crc_test

import (
	"bytes"
	"math"
	"testing"

	"encore/crc"
)

// sums are checksums of every kind: none, all and single bits, and mixed ones.
func sums() []uint32 {
	l := []uint32{0, math.MaxUint32, 3, 0x82f63b78, 0xe3069283, 0x7fffffff, 0xaaaaaaaa, 0x55555555}
	for i := range 32 {
		l = append(l, 1<<i, ^uint32(1<<i))
	}
	return l
}

// bytesOf are n bytes that look like nothing in particular; another seed gives others.
func bytesOf(n int, seed uint32) []byte {
	b := make([]byte, n)
	for i := range b {
		seed = seed*1664525 + 1013904223
		b[i] = byte(seed >> 24)
	}
	return b
}

// byDefinition takes the bits one by one, as the chapter defines it.
func byDefinition(sum uint32, b []byte) uint32 {
	register := ^sum
	for _, c := range b {
		for i := range 8 {
			differs := uint32(c)>>i&1 != register&1
			register >>= 1
			if differs {
				register ^= 0x82f63b78
			}
		}
	}
	return ^register
}

// joinByDefinition is Join by its zero bytes.
func joinByDefinition(first, second uint32, n int) uint32 {
	z := make([]byte, max(n, 0))
	return byDefinition(first, z) ^ byDefinition(0, z) ^ second
}

func TestExamples(t *testing.T) {
	for _, c := range []struct {
		name      string
		got, want uint32
	}{
		{"no bytes", crc.Of(nil), 0},
		{"an empty slice", crc.Of([]byte{}), 0},
		{"nine digits", crc.Of([]byte("123456789")), 0xe3069283},
		{"32 zero bytes", crc.Of(make([]byte, 32)), 0x8a9136aa},
		{"32 bytes ff", crc.Of(bytes.Repeat([]byte{255}, 32)), 0x62a8ab43},
		{"More", crc.More(crc.Of([]byte("1234")), []byte("56789")), 0xe3069283},
		{"Join", crc.Join(crc.Of([]byte("1234")), crc.Of([]byte("56789")), 5), 0xe3069283},
	} {
		if c.got != c.want {
			t.Errorf("%s: %08x, not %08x", c.name, c.got, c.want)
		}
	}
}

// P1.1: each byte alone, and rows of bytes of many lengths.
func TestOfIsTheChecksum(t *testing.T) {
	for i := range 256 {
		b := []byte{byte(i)}
		if got, want := crc.Of(b), byDefinition(0, b); got != want {
			t.Errorf("byte %02x: %08x, not %08x", i, got, want)
		}
	}
	for n := range 300 {
		b := bytesOf(n, uint32(n))
		if got, want := crc.Of(b), byDefinition(0, b); got != want {
			t.Errorf("%d bytes: %08x, not %08x", n, got, want)
		}
	}
	b := bytesOf(1<<16+1, 7)
	if got, want := crc.Of(b), byDefinition(0, b); got != want {
		t.Errorf("many bytes: %08x, not %08x", got, want)
	}
}

// P1.1: More is defined for every sum.
func TestMoreGoesOnFromEverySum(t *testing.T) {
	for _, sum := range sums() {
		if got := crc.More(sum, nil); got != sum {
			t.Errorf("%08x and no bytes: %08x", sum, got)
		}
		for n := range 40 {
			b := bytesOf(n, sum)
			if got, want := crc.More(sum, b), byDefinition(sum, b); got != want {
				t.Errorf("%08x and %d bytes: %08x, not %08x", sum, n, got, want)
			}
		}
	}
}

// P1.2: Join by its definition, for sums of every kind.
func TestJoinIsByZeroBytes(t *testing.T) {
	for _, first := range sums() {
		for _, second := range sums() {
			for _, n := range []int{0, 1, 2, 3, 4, 5, 7, 8, 31, 32, 33, 64, 100} {
				if got, want := crc.Join(first, second, n), joinByDefinition(first, second, n); got != want {
					t.Fatalf("%08x %08x %d: %08x, not %08x", first, second, n, got, want)
				}
			}
		}
	}
	for _, n := range []int{1000, 1<<16 - 1, 1 << 16, 1<<20 + 12345} {
		if got, want := crc.Join(0xdeadbeef, 0x12345678, n), joinByDefinition(0xdeadbeef, 0x12345678, n); got != want {
			t.Errorf("%d: %08x, not %08x", n, got, want)
		}
	}
}

// P1.2: a negative n counts as 0.
func TestJoinTakesANegativeCountAsNone(t *testing.T) {
	for _, n := range []int{0, -1, -2, -8, math.MinInt32, math.MinInt + 1, math.MinInt} {
		for _, first := range sums() {
			if got, want := crc.Join(first, 0x0badcafe, n), first^0x0badcafe; got != want {
				t.Errorf("%08x %d: %08x, not %08x", first, n, got, want)
			}
		}
	}
}

// P1.2: great counts are quick, and right. Zero bytes come round after 2^31 - 1 of them, as the polynomial is x + 1 times a primitive one of degree 31.
func TestJoinWithGreatCounts(t *testing.T) {
	const round = 1<<31 - 1
	for _, first := range sums() {
		for _, n := range []int{round - 1, round, round + 1, 1 << 32, 1<<40 + 3, 1 << 62, math.MaxInt - 1, math.MaxInt} {
			got := crc.Join(first, 0x13572468, n)
			if want := crc.Join(first, 0x13572468, n%round); got != want {
				t.Errorf("%08x %d: %08x, not %08x", first, n, got, want)
			}
		}
		if got, want := crc.Join(first, 5, round), first^5; got != want {
			t.Errorf("%08x a whole round: %08x, not %08x", first, got, want)
		}
		if got, want := crc.Join(first, 5, math.MaxInt), joinByDefinition(first, 5, math.MaxInt%round); got != want {
			t.Errorf("%08x MaxInt: %08x, not %08x", first, got, want)
		}
	}
}

// P1.2: zero bytes one after the other add up, whatever their numbers are.
func TestJoinAddsUp(t *testing.T) {
	counts := []int{0, 1, 63, 1000, 1 << 30, 1<<31 - 5, 1 << 33, 1<<61 + 9}
	for _, a := range counts {
		for _, b := range counts {
			first := uint32(0xc0ffee11)
			if got, want := crc.Join(crc.Join(first, 0, a), 0, b), crc.Join(first, 0, a+b); got != want {
				t.Errorf("%d and %d: %08x, not %08x", a, b, got, want)
			}
		}
	}
}

// P1.3: neither the bytes nor what lies behind them changes.
func TestArgumentsAreOnlyRead(t *testing.T) {
	all := bytesOf(64, 9)
	before := bytes.Clone(all)
	first := crc.Of(all[8:40])
	crc.More(first, all[:0])
	crc.More(first, all[8:40])
	if !bytes.Equal(all, before) {
		t.Error("the bytes have changed")
	}
	if crc.Of(all[8:40]) != first {
		t.Error("the same bytes have another checksum")
	}
}

// P1.4: two slices, cut everywhere.
func TestCutsDoNotMatter(t *testing.T) {
	for n := range 80 {
		all := bytesOf(n, uint32(n)+77)
		for i := 0; i <= n; i++ {
			a, b := all[:i], all[i:]
			if got := crc.More(crc.Of(a), b); got != crc.Of(all) {
				t.Errorf("More, %d of %d: %08x, not %08x", i, n, got, crc.Of(all))
			}
			if got := crc.Join(crc.Of(a), crc.Of(b), len(b)); got != crc.Of(all) {
				t.Errorf("Join, %d of %d: %08x, not %08x", i, n, got, crc.Of(all))
			}
		}
	}
}

// flip is b with the bits of pattern changed, from a bit on; the least significant bit of each byte is its first.
func flip(b []byte, from int, pattern uint32) []byte {
	c := bytes.Clone(b)
	for i := range 32 {
		at := from + i
		if pattern>>i&1 == 1 && at < 8*len(c) {
			c[at/8] ^= 1 << (at % 8)
		}
	}
	return c
}

// patterns are differences within 32 bits; each has its first bit.
func patterns() []uint32 {
	l := []uint32{1, math.MaxUint32, 0x80000001, 0x82f63b79, 0x05ec76f1, 0x11111111, 0x55555555}
	for i := range 32 {
		l = append(l, 1|1<<i, 1<<i|(1<<i-1))
	}
	seed := uint32(1)
	for range 500 {
		seed = seed*1664525 + 1013904223
		l = append(l, seed|1)
	}
	return l
}

// P1.5: a difference within 32 consecutive bits is always seen.
func TestShortDifferencesAreSeen(t *testing.T) {
	for _, n := range []int{1, 2, 3, 4, 5, 9, 20, 64} {
		b := bytesOf(n, uint32(n)+5)
		for from := range 8 * n {
			for _, pattern := range patterns() {
				if crc.Of(flip(b, from, pattern)) == crc.Of(b) {
					t.Fatalf("%d bytes, from bit %d, %08x: not seen", n, from, pattern)
				}
			}
		}
	}
}

// P1.5: the checksum of the exclusive or of three slices of one length.
func TestThreeSlicesCombine(t *testing.T) {
	for n := range 100 {
		a, b, c := bytesOf(n, 1), bytesOf(n, 22), bytesOf(n, 333)
		all := make([]byte, n)
		for i := range all {
			all[i] = a[i] ^ b[i] ^ c[i]
		}
		if got, want := crc.Of(all), crc.Of(a)^crc.Of(b)^crc.Of(c); got != want {
			t.Errorf("%d bytes: %08x, not %08x", n, got, want)
		}
	}
}
