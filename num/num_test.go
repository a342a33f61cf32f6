package num_test

import (
	"bytes"
	"math"
	"testing"

	"portmanteau/api"
	"portmanteau/num"
)

// varints are values with the bytes that the definition gives them.
var varints = []struct {
	n uint64
	b []byte
}{
	{0, []byte{0}},
	{1, []byte{1}},
	{127, []byte{127}},
	{128, []byte{0x80, 1}},
	{300, []byte{0xac, 2}},
	{1<<14 - 1, []byte{0xff, 0x7f}},
	{1 << 14, []byte{0x80, 0x80, 1}},
	{math.MaxUint32, []byte{0xff, 0xff, 0xff, 0xff, 0x0f}},
	{1<<56 - 1, []byte{0xff, 0xff, 0xff, 0xff, 0xff, 0xff, 0xff, 0x7f}},
	{1 << 56, []byte{0x80, 0x80, 0x80, 0x80, 0x80, 0x80, 0x80, 0x80, 1}},
	{api.MaxNumber - 1, []byte{0xfe, 0xff, 0xff, 0xff, 0xff, 0xff, 0xff, 0xff, 0x3f}},
	{api.MaxNumber, []byte{0xff, 0xff, 0xff, 0xff, 0xff, 0xff, 0xff, 0xff, 0x3f}},
}

var tooGreat = []uint64{api.MaxNumber + 1, api.MaxNumber + 2, 1 << 63, math.MaxUint64}

// words are values with the bytes that the definition gives them.
var words = []struct {
	n uint32
	b []byte
}{
	{0, []byte{0, 0, 0, 0}},
	{1, []byte{1, 0, 0, 0}},
	{0x80, []byte{0x80, 0, 0, 0}},
	{0xdeadbeef, []byte{0xef, 0xbe, 0xad, 0xde}},
	{math.MaxUint32, []byte{0xff, 0xff, 0xff, 0xff}},
}

var prefixes = [][]byte{nil, {}, {7}, {0x80, 0, 0xff}}

// P1.1

func TestPutWord(t *testing.T) {
	for _, w := range words {
		for _, p := range prefixes {
			want := append(bytes.Clone(p), w.b...)
			if got := num.PutWord(p, w.n); !bytes.Equal(got, want) {
				t.Errorf("PutWord(% x, %#x) = % x, want % x", p, w.n, got, want)
			}
		}
	}
}

func TestPutVarint(t *testing.T) {
	for _, v := range varints {
		for _, p := range prefixes {
			want := append(bytes.Clone(p), v.b...)
			if got, e := num.PutVarint(p, v.n); e != api.OK || !bytes.Equal(got, want) {
				t.Errorf("PutVarint(% x, %d) = % x, %d, want % x", p, v.n, got, e, want)
			}
		}
	}
	for _, n := range tooGreat {
		for _, p := range prefixes {
			if got, e := num.PutVarint(p, n); e != api.ErrArg || len(got) != 0 {
				t.Errorf("PutVarint(% x, %d) = % x, %d, want ErrArg", p, n, got, e)
			}
		}
	}
}

func TestSize(t *testing.T) {
	for _, v := range varints {
		if got := num.Size(v.n); got != len(v.b) {
			t.Errorf("Size(%d) = %d, want %d", v.n, got, len(v.b))
		}
	}
	for size := 1; size <= 8; size++ {
		least := uint64(1) << (7 * size)
		if a, b := num.Size(least-1), num.Size(least); a != size || b != size+1 {
			t.Errorf("Size around %d = %d, %d, want %d, %d", least, a, b, size, size+1)
		}
	}
	for _, n := range tooGreat {
		if got := num.Size(n); got != 0 {
			t.Errorf("Size(%d) = %d, want 0", n, got)
		}
	}
}

// The results are new slices: neither the argument nor its spare capacity is written, and the argument cannot be changed through the result.
func TestPutReturnsNewSlice(t *testing.T) {
	puts := map[string]func([]byte) []byte{
		"PutWord": func(b []byte) []byte { return num.PutWord(b, 0x01020304) },
		"PutVarint": func(b []byte) []byte {
			out, _ := num.PutVarint(b, api.MaxNumber)
			return out
		},
	}
	for name, put := range puts {
		backing := bytes.Repeat([]byte{0x55}, 64)
		out := put(backing[:3])
		if !bytes.Equal(backing, bytes.Repeat([]byte{0x55}, 64)) {
			t.Errorf("%s wrote into its argument's memory: % x", name, backing)
		}
		out[0] = 1
		if backing[0] != 0x55 {
			t.Errorf("%s returned its argument's memory", name)
		}
		again := put(backing[:3])
		backing[1] = 2
		if again[1] != 0x55 {
			t.Errorf("%s kept its argument's memory", name)
		}
	}
}

// P1.4

func TestWordRoundTrip(t *testing.T) {
	for _, w := range words {
		c := num.New(append(num.PutWord(nil, w.n), 9))
		if got, e := c.Word(); got != w.n || e != api.OK || c.At() != 4 || c.Left() != 1 {
			t.Errorf("Word = %#x, %d, at %d, want %#x", got, e, c.At(), w.n)
		}
	}
}

// manyNumbers are numbers of every size, at and around the powers of two.
func manyNumbers() []uint64 {
	var all []uint64
	for shift := range 63 {
		for _, n := range []uint64{1<<shift - 1, 1 << shift, 1<<shift + 1, 0x2aaaaaaaaaaaaaaa >> shift, 0x1234567890abcdef >> shift} {
			if n <= api.MaxNumber {
				all = append(all, n)
			}
		}
	}
	return all
}

func TestVarintRoundTrip(t *testing.T) {
	for _, n := range manyNumbers() {
		b, e := num.PutVarint(nil, n)
		if e != api.OK || len(b) != num.Size(n) {
			t.Fatalf("PutVarint(%d) = % x, %d, but Size is %d", n, b, e, num.Size(n))
		}
		c := num.New(append(bytes.Clone(b), 0xff))
		if got, e := c.Varint(); got != n || e != api.OK || c.At() != len(b) {
			t.Errorf("Varint of % x = %d, %d, at %d, want %d", b, got, e, c.At(), n)
		}
		c = num.New(append(bytes.Clone(b), 0x80))
		if got, e := c.Number(int(n)); got != int(n) || e != api.OK || c.At() != len(b) {
			t.Errorf("Number of % x = %d, %d, at %d, want %d", b, got, e, c.At(), n)
		}
	}
}

func TestStreamOfValues(t *testing.T) {
	var b []byte
	for i, n := range manyNumbers() {
		b, _ = num.PutVarint(b, n)
		b = num.PutWord(b, uint32(i))
	}
	c := num.New(b)
	for i, n := range manyNumbers() {
		before := c.At()
		if got, e := c.Varint(); got != n || e != api.OK || c.At() != before+num.Size(n) {
			t.Fatalf("value %d: Varint = %d, %d, want %d", i, got, e, n)
		}
		if got, e := c.Word(); got != uint32(i) || e != api.OK || c.Left() != len(b)-c.At() {
			t.Fatalf("value %d: Word = %d, %d", i, got, e)
		}
	}
	if e := c.End(); e != api.OK {
		t.Errorf("End = %d after all values", e)
	}
}

// definedVarint reads a varint as the chapter defines it, condition by condition.
func definedVarint(b []byte) (n uint64, size int, e api.Errno) {
	high := 0
	for high < len(b) && b[high] >= 128 {
		high++
	}
	if high >= 9 {
		return 0, 0, api.ErrLimit
	}
	if high == len(b) {
		return 0, 0, api.ErrShort
	}
	if high > 0 && b[high] == 0 {
		return 0, 0, api.ErrMinimal
	}
	for i := high; i >= 0; i-- {
		n = n*128 + uint64(b[i]%128)
	}
	if n > api.MaxNumber {
		return 0, 0, api.ErrLimit
	}
	return n, high + 1, api.OK
}

func checkVarint(t *testing.T, b []byte) {
	t.Helper()
	n, size, want := definedVarint(b)
	c := num.New(b)
	got, e := c.Varint()
	if got != n || e != want || c.At() != size {
		t.Fatalf("Varint of % x = %d, %d, at %d, want %d, %d, at %d", b, got, e, c.At(), n, want, size)
	}
	if e != api.OK {
		return
	}
	if again, e := num.PutVarint(nil, got); e != api.OK || !bytes.Equal(again, b[:size]) {
		t.Fatalf("% x decodes to %d, which is encoded as % x, %d", b, got, again, e)
	}
}

// Every string of a few bytes is tried, and long ones whose last bytes are at the bounds.
func TestVarintOfAllBytes(t *testing.T) {
	checkVarint(t, nil)
	for x := range 1 << 16 {
		checkVarint(t, []byte{byte(x)})
		checkVarint(t, []byte{byte(x), byte(x >> 8)})
	}
	for _, fill := range []byte{0x80, 0x81, 0xc0, 0xff} {
		for high := range 12 {
			for last := range 256 {
				b := append(bytes.Repeat([]byte{fill}, high), byte(last))
				checkVarint(t, b)
				checkVarint(t, append(b, 0))
				checkVarint(t, append(b, 0xff))
			}
		}
	}
}
