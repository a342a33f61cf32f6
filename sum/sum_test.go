package sum_test

import (
	"bytes"
	"math/rand"
	"testing"

	"portmanteau/sum"
)

// The chapter's constants, written out once more, so that a wrong digit in the package shows.
const (
	k1 uint64 = 0x9E3779B97F4A7C15
	k2 uint64 = 0xD6E8FEB86659FD93
	k3 uint64 = 0xFF51AFD7ED558CCD
)

// finish is the last four steps of the checksum of n bytes.
func finish(h, n uint64) uint64 {
	h = h ^ n
	h = h ^ (h >> 29)
	h = h * k1
	h = h ^ (h >> 32)
	return h
}

// defined is the checksum as the chapter says it, with the whole slice at hand.
func defined(b []byte) uint64 {
	padded := bytes.Clone(b)
	for len(padded)%8 != 0 {
		padded = append(padded, 0)
	}
	h := k3
	for at := 0; at < len(padded); at += 8 {
		w := uint64(0)
		for i := 7; i >= 0; i-- {
			w = w*256 + uint64(padded[at+i])
		}
		h = h ^ (w * k1)
		h = h<<31 | h>>33
		h = h * k2
	}
	return finish(h, uint64(len(b)))
}

// mixed returns n bytes that are not all alike.
func mixed(n int) []byte {
	b := make([]byte, n)
	for i := range b {
		b[i] = byte(i*i*29 + i*71 + 0x9d)
	}
	return b
}

// counted returns n bytes that count up from 0.
func counted(n int) []byte {
	b := make([]byte, n)
	for i := range b {
		b[i] = byte(i)
	}
	return b
}

// want compares what s tells with the checksum of the bytes that it has received, twice: asking changes nothing.
func want(t *testing.T, s *sum.Sum, received []byte) {
	t.Helper()
	x := defined(received)
	for range 2 {
		if got := s.Sum(); got != x {
			t.Fatalf("Sum of %d bytes = %#016x, want %#016x", len(received), got, x)
		}
		if got := s.Low(); got != uint32(x&0xFFFFFFFF) {
			t.Fatalf("Low of %d bytes = %#08x, want the low half of %#016x", len(received), got, x)
		}
		if got := s.Len(); got != len(received) {
			t.Fatalf("Len = %d, want %d", got, len(received))
		}
	}
}

// The chapter's table

func TestExample(t *testing.T) {
	if got, want := sum.Of(nil), finish(k3, 0); got != want {
		t.Errorf("Of(nil) = %#016x, want %#016x", got, want)
	}
}

// P4.1

// The numbers were computed by another program from the chapter's definition.
func TestKnownChecksums(t *testing.T) {
	for _, x := range []struct {
		b    []byte
		want uint64
	}{
		{nil, 0xC9B4D2FD649BC9A7},
		{[]byte{}, 0xC9B4D2FD649BC9A7},
		{[]byte{0}, 0xD5D967301CDC5832},
		{[]byte("a"), 0x662940CCFB4167EC},
		{[]byte("abc"), 0x0A7B793327248A57},
		{[]byte("1234567"), 0xA739B9F0DC35BAB7},
		{[]byte("12345678"), 0xC4555F8858A39FB1},
		{[]byte("123456789"), 0x4CCB4B422DF3BBB9},
		{make([]byte, 8), 0x8255131ECFAEC971},
		{bytes.Repeat([]byte{0xFF}, 8), 0x76BDFBD316B9798A},
		{bytes.Repeat([]byte{0xFF}, 15), 0xE1757F073F33643B},
		{counted(16), 0xD61A752431905993},
		{counted(23), 0x2EF16A6464DFB789},
		{counted(1000), 0x30C19105DA6747F6},
	} {
		if got := sum.Of(x.b); got != x.want {
			t.Errorf("Of(% x) = %#016x, want %#016x", x.b, got, x.want)
		}
	}
}

// No bytes, fewer than eight, exactly eight, and every number behind the last whole group.
func TestOfEveryLength(t *testing.T) {
	for n := range 300 {
		for _, b := range [][]byte{mixed(n), make([]byte, n), bytes.Repeat([]byte{0xFF}, n)} {
			if got, want := sum.Of(b), defined(b); got != want {
				t.Fatalf("Of(% x) = %#016x, want %#016x", b, got, want)
			}
		}
	}
}

// Every place of a group, with the others 0: the first byte is the lowest one.
func TestOfEveryPlaceOfAByte(t *testing.T) {
	for n := 1; n <= 24; n++ {
		for at := range n {
			for _, x := range []byte{1, 0x80, 0xFF} {
				b := make([]byte, n)
				b[at] = x
				if got, want := sum.Of(b), defined(b); got != want {
					t.Fatalf("Of(% x) = %#016x, want %#016x", b, got, want)
				}
			}
		}
	}
}

// Zero bytes at the end are padding's likes, but they count.
func TestZeroBytesAtTheEnd(t *testing.T) {
	for _, start := range [][]byte{nil, {1}, []byte("abc"), []byte("12345678"), mixed(13)} {
		seen := map[uint64]int{}
		for zeros := range 40 {
			b := append(bytes.Clone(start), make([]byte, zeros)...)
			x := sum.Of(b)
			if x != defined(b) {
				t.Errorf("Of(% x) = %#016x, want %#016x", b, x, defined(b))
			}
			if other, had := seen[x]; had {
				t.Errorf("% x has the same checksum with %d and with %d zero bytes behind it", start, other, zeros)
			}
			seen[x] = zeros
		}
	}
}

func TestOfLongSlices(t *testing.T) {
	source := rand.New(rand.NewSource(5))
	for _, n := range []int{1000, 4095, 4096, 4097, 1<<17 - 1, 1 << 17, 1<<17 + 5, 1<<20 + 7} {
		b := make([]byte, n)
		source.Read(b)
		if got, want := sum.Of(b), defined(b); got != want {
			t.Errorf("Of %d bytes = %#016x, want %#016x", n, got, want)
		}
	}
}

// A call keeps nothing for the next one.
func TestOfDependsOnItsArgumentAlone(t *testing.T) {
	first := sum.Of(mixed(13))
	sum.Of(mixed(5))
	sum.Of(mixed(64))
	if again := sum.Of(mixed(13)); again != first {
		t.Errorf("Of = %#016x, and then %#016x", first, again)
	}
}

// The argument may begin anywhere and have room behind it, and neither is written or read.
func TestOfAPieceOfASlice(t *testing.T) {
	room := mixed(64)
	kept := bytes.Clone(room)
	for from := range 20 {
		for to := from; to <= 40; to++ {
			if got, want := sum.Of(room[from:to]), defined(kept[from:to]); got != want {
				t.Fatalf("Of bytes %d to %d = %#016x, want %#016x", from, to, got, want)
			}
			s := sum.New()
			s.Write(room[from:to])
			s.Write(room[from:to])
			if !bytes.Equal(room, kept) {
				t.Fatalf("bytes %d to %d: % x became % x", from, to, kept, room)
			}
		}
	}
}

// P4.2

func TestNoBytes(t *testing.T) {
	var zero sum.Sum
	want(t, &zero, nil)
	s := sum.New()
	if s == nil {
		t.Fatal("New() = nil")
	}
	want(t, s, nil)
	for range 3 {
		s.Write(nil)
		s.Write([]byte{})
		zero.Write(nil)
	}
	want(t, s, nil)
	want(t, &zero, nil)
}

// The zero Sum is like that of New.
func TestZeroSum(t *testing.T) {
	for n := range 40 {
		var s sum.Sum
		s.Write(mixed(n))
		want(t, &s, mixed(n))
		s.Write(mixed(n))
		want(t, &s, append(mixed(n), mixed(n)...))
	}
}

func TestNewSumsAreSeparate(t *testing.T) {
	s, r := sum.New(), sum.New()
	s.Write(mixed(11))
	want(t, r, nil)
	r.Write(mixed(3))
	want(t, s, mixed(11))
	want(t, r, mixed(3))
}

func TestNilSum(t *testing.T) {
	var s *sum.Sum
	for _, b := range [][]byte{nil, {}, {1}, mixed(8), mixed(100)} {
		s.Write(b)
		if s.Sum() != 0 || s.Low() != 0 || s.Len() != 0 {
			t.Errorf("nil: Sum %d, Low %d, Len %d, want 0", s.Sum(), s.Low(), s.Len())
		}
		if c := s.Copy(); c != nil {
			t.Errorf("Copy of nil = %v, want nil", c)
		}
	}
}

// Asked behind every byte, which is every place of a group.
func TestAskedBetweenWrites(t *testing.T) {
	b := mixed(100)
	asked, silent := sum.New(), sum.New()
	for i := range b {
		want(t, asked, b[:i])
		asked.Write(b[i : i+1])
		silent.Write(b[i : i+1])
	}
	want(t, asked, b)
	want(t, silent, b)
}

// A checksum with a zero low half or high half could hide a mistake in Low; these have neither.
func TestLow(t *testing.T) {
	for b, low := range map[string]uint32{"": 0x649BC9A7, "a": 0xFB4167EC, "12345678": 0x58A39FB1, "123456789": 0x2DF3BBB9} {
		s := sum.New()
		s.Write([]byte(b))
		if got := s.Low(); got != low {
			t.Errorf("Low of %q = %#08x, want %#08x", b, got, low)
		}
	}
}

// At every place of a group, the copy and the original go on apart, in either order.
func TestCopy(t *testing.T) {
	for n := range 40 {
		for more := range 20 {
			start, left, right := mixed(n), bytes.Repeat([]byte{0x11}, more), bytes.Repeat([]byte{0xEE}, more)
			s := sum.New()
			s.Write(start)
			c := s.Copy()
			if c == nil || c == s {
				t.Fatalf("Copy of %p = %p", s, c)
			}
			want(t, c, start)
			s.Write(left)
			want(t, c, start)
			c.Write(right)
			want(t, s, append(bytes.Clone(start), left...))
			want(t, c, append(bytes.Clone(start), right...))
			s.Write(right)
			want(t, c, append(bytes.Clone(start), right...))
			want(t, s, append(append(bytes.Clone(start), left...), right...))
		}
	}
}

func TestCopyOfTheZeroSum(t *testing.T) {
	var s sum.Sum
	c := s.Copy()
	if c == nil {
		t.Fatal("Copy of the zero Sum = nil")
	}
	want(t, c, nil)
	c.Write(mixed(9))
	want(t, &s, nil)
	want(t, c, mixed(9))
}

func TestCopyOfACopy(t *testing.T) {
	b := mixed(30)
	s := sum.New()
	s.Write(b[:5])
	c := s.Copy()
	d := c.Copy()
	c.Write(b[:1])
	d.Write(b[5:])
	want(t, s, b[:5])
	want(t, c, append(bytes.Clone(b[:5]), b[0]))
	want(t, d, b)
}

// What was written is kept by itself: the caller may use the slice again.
func TestSliceChangedAfterWrite(t *testing.T) {
	for n := range 40 {
		b := mixed(n)
		s := sum.New()
		s.Write(b)
		for i := range b {
			b[i] ^= 0xFF
		}
		want(t, s, mixed(n))
		s.Write(mixed(20))
		want(t, s, append(mixed(n), mixed(20)...))
	}
}

// P4.3

// Every division of up to twelve bytes: a bit of cuts for each place between two of them.
func TestEveryDivision(t *testing.T) {
	for n := 1; n <= 12; n++ {
		b := mixed(n)
		for cuts := range 1 << (n - 1) {
			s, from := sum.New(), 0
			for to := 1; to <= n; to++ {
				if to == n || cuts>>(to-1)&1 == 1 {
					s.Write(b[from:to])
					from = to
				}
			}
			if s.Sum() != defined(b) || s.Len() != n {
				t.Fatalf("%d bytes cut at %b: %#016x, %d, want %#016x", n, cuts, s.Sum(), s.Len(), defined(b))
			}
		}
	}
}

// Three calls, with every length of the first two: any number of bytes is kept, and then any number arrives.
func TestDivisionsInThree(t *testing.T) {
	b := mixed(43)
	for first := range 20 {
		for second := range 22 {
			s := sum.New()
			s.Write(b[:first])
			s.Write(b[first : first+second])
			want(t, s, b[:first+second])
			s.Write(b[first+second:])
			want(t, s, b)
		}
	}
}

func TestRandomDivisions(t *testing.T) {
	source := rand.New(rand.NewSource(6))
	for range 300 {
		b := make([]byte, source.Intn(3000))
		source.Read(b)
		most := 1 + source.Intn(70)
		s := sum.New()
		for rest := b; len(rest) > 0; {
			n := min(source.Intn(most+1), len(rest))
			s.Write(rest[:n])
			rest = rest[n:]
		}
		want(t, s, b)
	}
}

// Every single byte of the slice, and so every group, the last one of any number of bytes.
func TestOneByteChanged(t *testing.T) {
	for n := 1; n <= 40; n++ {
		b := mixed(n)
		seen := map[uint64]bool{sum.Of(b): true}
		for at := range n {
			for x := 1; x < 256; x++ {
				b[at] ^= byte(x)
				if h := sum.Of(b); seen[h] {
					t.Fatalf("%d bytes, byte %d changed by %#x: the checksum %#016x occurs twice", n, at, x, h)
				} else if at/8 == (n-1)/8 {
					// Changes of one group differ among themselves, too.
					seen[h] = true
				}
				b[at] ^= byte(x)
			}
		}
	}
}

func TestOneGroupChanged(t *testing.T) {
	source := rand.New(rand.NewSource(7))
	for range 2000 {
		b := make([]byte, 1+source.Intn(60))
		source.Read(b)
		from := 8 * source.Intn((len(b)+7)/8)
		group := b[from:min(from+8, len(b))]
		seen := map[uint64]string{}
		for range 30 {
			source.Read(group)
			h := sum.Of(b)
			if other, had := seen[h]; had && other != string(group) {
				t.Fatalf("% x and % x at %d of %d bytes have the checksum %#016x", other, group, from, len(b), h)
			}
			seen[h] = string(group)
		}
	}
}
