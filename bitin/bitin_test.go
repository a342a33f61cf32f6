package bitin_test

import (
	"bytes"
	"math"
	"math/rand"
	"testing"

	"portmanteau/api"
	"portmanteau/bitin"
	"portmanteau/bitout"
)

// model is a bit sequence as the chapters define it: its bits, one by one.
type model []bool

// modelOf returns the bits of bytes, in stream order.
func modelOf(b []byte) model {
	m := model{}
	for i := range 8 * len(b) {
		m = append(m, b[i/8]>>(i%8)&1 == 1)
	}
	return m
}

// unclosed returns the bits before the end mark of a closed stream.
func unclosed(b []byte) model {
	m := modelOf(b)
	mark := len(m) - 1
	for !m[mark] {
		mark--
	}
	return m[:mark]
}

// value returns the bits as a number, the first one least significant.
func (m model) value() uint64 {
	v := uint64(0)
	for i, bit := range m {
		if bit {
			v += 1 << i
		}
	}
	return v
}

// mixed returns n bytes that are not all alike and of which the last one is not 0.
func mixed(n int) []byte {
	b := make([]byte, n)
	for i := range b {
		b[i] = byte(i*i*29 + i*71 + 0x9d)
	}
	if n > 0 && b[n-1] == 0 {
		b[n-1] = 0x2d
	}
	return b
}

func backward(t *testing.T, b []byte) *bitin.Backward {
	t.Helper()
	k, e := bitin.NewBackward(b)
	if e != api.OK || k == nil {
		t.Fatalf("NewBackward(% x) = %v, %d", b, k, e)
	}
	return k
}

// wantForward takes n bits, which are the next ones of the model, and returns the bits that are then unread.
func wantForward(t *testing.T, f *bitin.Forward, unread model, n int) model {
	t.Helper()
	at := f.At()
	v, e := f.Take(n)
	if want := unread[:n].value(); v != want || e != api.OK {
		t.Fatalf("Take(%d) at %d = %#x, %d, want %#x", n, at, v, e, want)
	}
	if f.At() != at+n || f.Left() != len(unread)-n {
		t.Fatalf("after Take(%d) at %d: At %d, Left %d, want %d, %d", n, at, f.At(), f.Left(), at+n, len(unread)-n)
	}
	return unread[n:]
}

// wantBackward takes n bits, which are the last ones of the model, and returns the bits that are then unread.
func wantBackward(t *testing.T, k *bitin.Backward, unread model, n int) model {
	t.Helper()
	rest := len(unread) - n
	v, e := k.Take(n)
	if want := unread[rest:].value(); v != want || e != api.OK {
		t.Fatalf("Take(%d) of %d bits = %#x, %d, want %#x", n, len(unread), v, e, want)
	}
	if k.Left() != rest {
		t.Fatalf("after Take(%d) of %d bits: Left %d, want %d", n, len(unread), k.Left(), rest)
	}
	return unread[:rest]
}

func drainForward(t *testing.T, f *bitin.Forward, unread model) {
	t.Helper()
	if f.Left() != len(unread) {
		t.Fatalf("Left = %d, want %d", f.Left(), len(unread))
	}
	for len(unread) > 0 {
		unread = wantForward(t, f, unread, min(len(unread), 13))
	}
	if v, e := f.Take(1); v != 0 || e != api.ErrShort {
		t.Fatalf("Take(1) at the end = %d, %d, want ErrShort", v, e)
	}
}

func drainBackward(t *testing.T, k *bitin.Backward, unread model) {
	t.Helper()
	if k.Left() != len(unread) {
		t.Fatalf("Left = %d, want %d", k.Left(), len(unread))
	}
	for len(unread) > 0 {
		unread = wantBackward(t, k, unread, min(len(unread), 13))
	}
	if v, e := k.Take(1); v != 0 || e != api.ErrBits {
		t.Fatalf("Take(1) at the end = %d, %d, want ErrBits", v, e)
	}
}

var wrongCounts = []int{-1, -8, -63, -64, -65, 65, 66, 72, 128, 256, 1 << 32, math.MinInt, math.MinInt + 8, math.MaxInt - 1, math.MaxInt}

// The chapter's table

func TestExampleForward(t *testing.T) {
	f := bitin.NewForward([]byte{0x2d})
	for i, want := range []struct {
		n int
		v uint64
		e api.Errno
	}{{3, 5, api.OK}, {2, 1, api.OK}, {3, 1, api.OK}, {1, 0, api.ErrShort}} {
		if v, e := f.Take(want.n); v != want.v || e != want.e {
			t.Errorf("call %d: Take(%d) = %d, %d, want %d, %d", i, want.n, v, e, want.v, want.e)
		}
	}
}

func TestExampleBackward(t *testing.T) {
	k := backward(t, []byte{0x2d})
	if v := k.Peek(4); v != 6 {
		t.Errorf("Peek(4) = %d, want 6", v)
	}
	if v, e := k.Take(2); v != 1 || e != api.OK {
		t.Errorf("Take(2) = %d, %d, want 1", v, e)
	}
	if v, e := k.Take(3); v != 5 || e != api.OK {
		t.Errorf("Take(3) = %d, %d, want 5", v, e)
	}
	if n, v := k.Left(), k.Peek(2); n != 0 || v != 0 {
		t.Errorf("Left %d, Peek(2) %d, want 0, 0", n, v)
	}
	if n := backward(t, []byte{1}).Left(); n != 0 {
		t.Errorf("Left of 01 = %d, want 0", n)
	}
}

// P3.1

func TestNewForward(t *testing.T) {
	for _, b := range [][]byte{nil, {}, {0}, {0x80}, {1, 2, 0}, mixed(40)} {
		f := bitin.NewForward(b)
		if f == nil || f.At() != 0 || f.Left() != 8*len(b) {
			t.Fatalf("NewForward(% x): At %d, Left %d", b, f.At(), f.Left())
		}
		drainForward(t, f, modelOf(b))
	}
}

func TestNewBackwardWithoutEndMark(t *testing.T) {
	for _, b := range [][]byte{nil, {}, {0}, {0x2d, 0}, {0xff, 0xff, 0}, {0, 0, 0}, append(mixed(40), 0)} {
		if k, e := bitin.NewBackward(b); k != nil || e != api.ErrBits {
			t.Errorf("NewBackward(% x) = %v, %d, want ErrBits", b, k, e)
		}
	}
}

// Every last byte, so every place of the end mark.
func TestNewBackward(t *testing.T) {
	for _, before := range [][]byte{nil, {0}, {0xff}, {0x5a, 0, 0xc3}} {
		for last := 1; last < 256; last++ {
			b := append(bytes.Clone(before), byte(last))
			drainBackward(t, backward(t, b), unclosed(b))
		}
	}
}

// The readers have copies: changing the caller's slice changes nothing, and neither it nor what is behind it is written.
func TestReadersCopyTheirBytes(t *testing.T) {
	for n := 1; n < 12; n++ {
		want := mixed(n)
		room := append(bytes.Clone(want), 0x11, 0x22, 0x33)
		kept := bytes.Clone(room)
		b := room[:n]
		f, k := bitin.NewForward(b), backward(t, b)
		wantForward(t, f, modelOf(want), 3)
		if !bytes.Equal(room, kept) {
			t.Fatalf("% x became % x", kept, room)
		}
		for i := range room {
			room[i] ^= 0xff
		}
		drainForward(t, f, modelOf(want)[3:])
		drainBackward(t, k, unclosed(want))
		for i := range room {
			room[i] ^= 0xff
		}
		if !bytes.Equal(room, kept) {
			t.Fatalf("reading wrote % x over % x", room, kept)
		}
	}
}

func TestReadersOfOneSliceAreSeparate(t *testing.T) {
	b := mixed(9)
	f, g := bitin.NewForward(b), bitin.NewForward(b)
	k, l := backward(t, b), backward(t, b)
	drainForward(t, f, modelOf(b))
	drainBackward(t, k, unclosed(b))
	drainForward(t, g, modelOf(b))
	drainBackward(t, l, unclosed(b))
}

// A reader that is copied as a value goes on by itself.
func TestCopiedReaders(t *testing.T) {
	b := mixed(9)
	f, k := bitin.NewForward(b), backward(t, b)
	m, c := wantForward(t, f, modelOf(b), 11), wantBackward(t, k, unclosed(b), 11)
	g, l := *f, *k
	drainForward(t, f, m)
	drainBackward(t, k, c)
	drainForward(t, &g, m)
	drainBackward(t, &l, c)
}

// P3.2

// Every number of bits at every place of a byte.
func TestTakeAtEveryPlace(t *testing.T) {
	streams := [][]byte{mixed(12), bytes.Repeat([]byte{0xff}, 12), bytes.Repeat([]byte{0xaa}, 12), append(make([]byte, 11), 1), append(make([]byte, 11), 0x80)}
	for _, b := range streams {
		for start := range 18 {
			for n := range 65 {
				f, k := bitin.NewForward(b), backward(t, b)
				m := wantForward(t, f, modelOf(b), start)
				drainForward(t, f, wantForward(t, f, m, n))
				c := wantBackward(t, k, unclosed(b), start)
				drainBackward(t, k, wantBackward(t, k, c, n))
			}
		}
	}
}

func TestTakeToTheLastBit(t *testing.T) {
	for size := 1; size <= 9; size++ {
		b := mixed(size)
		for n := range 65 {
			if m := modelOf(b); n <= len(m) {
				f := bitin.NewForward(b)
				for len(m) > n {
					m = wantForward(t, f, m, 1)
				}
				wantForward(t, f, m, n)
			}
			if c := unclosed(b); n <= len(c) {
				k := backward(t, b)
				for len(c) > n {
					c = wantBackward(t, k, c, 1)
				}
				wantBackward(t, k, c, n)
			}
		}
	}
}

// ErrArg comes before the error for too few bits, and nothing is read.
func TestTakeOfWrongCounts(t *testing.T) {
	for _, b := range [][]byte{{1}, mixed(2), mixed(30)} {
		for start := range 3 {
			f, k := bitin.NewForward(b), backward(t, b)
			m := wantForward(t, f, modelOf(b), start)
			c := unclosed(b)
			c = wantBackward(t, k, c, min(start, len(c)))
			for _, n := range wrongCounts {
				if v, e := f.Take(n); v != 0 || e != api.ErrArg {
					t.Errorf("forward: Take(%d) of %d bits = %#x, %d, want ErrArg", n, len(m), v, e)
				}
				if v, e := k.Take(n); v != 0 || e != api.ErrArg {
					t.Errorf("backward: Take(%d) of %d bits = %#x, %d, want ErrArg", n, len(c), v, e)
				}
				if e := k.Skip(n); e != api.ErrArg {
					t.Errorf("Skip(%d) of %d bits = %d, want ErrArg", n, len(c), e)
				}
			}
			drainForward(t, f, m)
			drainBackward(t, k, c)
		}
	}
}

func TestTooFewBits(t *testing.T) {
	for size := 1; size <= 9; size++ {
		b := mixed(size)
		f, k := bitin.NewForward(b), backward(t, b)
		m, c := modelOf(b), unclosed(b)
		for len(m) > 0 {
			for n := len(m) + 1; n <= 64; n++ {
				if v, e := f.Take(n); v != 0 || e != api.ErrShort || f.Left() != len(m) {
					t.Fatalf("forward: Take(%d) of %d bits = %#x, %d, want ErrShort", n, len(m), v, e)
				}
			}
			m = wantForward(t, f, m, 1)
		}
		for len(c) > 0 {
			for n := len(c) + 1; n <= 64; n++ {
				if v, e := k.Take(n); v != 0 || e != api.ErrBits || k.Left() != len(c) {
					t.Fatalf("backward: Take(%d) of %d bits = %#x, %d, want ErrBits", n, len(c), v, e)
				}
				if e := k.Skip(n); e != api.ErrBits || k.Left() != len(c) {
					t.Fatalf("Skip(%d) of %d bits = %d, want ErrBits", n, len(c), e)
				}
			}
			c = wantBackward(t, k, c, 1)
		}
		for _, n := range []int{1, 8, 63, 64} {
			if _, e := f.Take(n); e != api.ErrShort {
				t.Errorf("Take(%d) at the end = %d, want ErrShort", n, e)
			}
			if _, e := k.Take(n); e != api.ErrBits {
				t.Errorf("Take(%d) at the end = %d, want ErrBits", n, e)
			}
		}
	}
}

func TestTakeOfNothing(t *testing.T) {
	b := mixed(3)
	f, k := bitin.NewForward(b), backward(t, b)
	m, c := modelOf(b), unclosed(b)
	for {
		if v, e := f.Take(0); v != 0 || e != api.OK || f.Left() != len(m) {
			t.Fatalf("forward: Take(0) of %d bits = %d, %d", len(m), v, e)
		}
		if v, e := k.Take(0); v != 0 || e != api.OK || k.Left() != len(c) {
			t.Fatalf("backward: Take(0) of %d bits = %d, %d", len(c), v, e)
		}
		if len(m) == 0 {
			return
		}
		m = wantForward(t, f, m, 1)
		if len(c) > 0 {
			c = wantBackward(t, k, c, 1)
		}
	}
}

// P3.3

// Every byte to align in, at every place of it.
func TestAlign(t *testing.T) {
	for x := range 256 {
		b := []byte{0xff, byte(x), 0xff}
		for read := range 8 {
			f := bitin.NewForward(b)
			m := wantForward(t, f, modelOf(b), 8+read)
			if read == 0 {
				if n, e := f.Align(); n != 1 || e != api.OK || f.At() != 8 || f.Left() != 16 {
					t.Fatalf("Align at a boundary = %d, %d, at %d", n, e, f.At())
				}
				continue
			}
			n, e := f.Align()
			if byte(x)>>read != 0 {
				if n != 0 || e != api.ErrBits || f.At() != 8+read {
					t.Fatalf("Align in %08b at %d = %d, %d, at %d, want ErrBits", x, read, n, e, f.At())
				}
				drainForward(t, f, m)
				continue
			}
			if n != 2 || e != api.OK || f.At() != 16 || f.Left() != 8 {
				t.Fatalf("Align in %08b at %d = %d, %d, at %d, want 2", x, read, n, e, f.At())
			}
			drainForward(t, f, modelOf(b)[16:])
		}
	}
}

func TestAlignAtTheEnds(t *testing.T) {
	for size := range 5 {
		f := bitin.NewForward(make([]byte, size))
		for range 2 {
			if n, e := f.Align(); n != 0 || e != api.OK || f.At() != 0 {
				t.Errorf("Align at the beginning of %d bytes = %d, %d", size, n, e)
			}
		}
		for i := range size {
			if _, e := f.Take(1 + i%8); e != api.OK {
				t.Fatal(e)
			}
			for range 2 {
				if n, e := f.Align(); n != i+1 || e != api.OK || f.At() != 8*(i+1) {
					t.Errorf("Align in byte %d = %d, %d, at %d", i, n, e, f.At())
				}
			}
		}
		if n, e := f.Align(); n != size || e != api.OK || f.Left() != 0 {
			t.Errorf("Align at the end of %d bytes = %d, %d", size, n, e)
		}
		if _, e := f.Take(1); e != api.ErrShort {
			t.Errorf("Take(1) at the end = %d", e)
		}
	}
}

// An Align that failed can be tried again behind the bit that is 1.
func TestAlignAfterFailure(t *testing.T) {
	b := []byte{0x20, 0x2d}
	f := bitin.NewForward(b)
	m := wantForward(t, f, modelOf(b), 5)
	if n, e := f.Align(); n != 0 || e != api.ErrBits {
		t.Errorf("Align over a 1 = %d, %d, want ErrBits", n, e)
	}
	wantForward(t, f, m, 1)
	if n, e := f.Align(); n != 1 || e != api.OK {
		t.Errorf("Align behind the 1 = %d, %d, want 1", n, e)
	}
	wantForward(t, f, modelOf(b)[8:], 8)
}

func TestNilReaders(t *testing.T) {
	var f *bitin.Forward
	var k *bitin.Backward
	for _, n := range append([]int{0, 1, 63, 64}, wrongCounts...) {
		if v, e := f.Take(n); v != 0 || e != api.ErrNil {
			t.Errorf("Take(%d) of a nil Forward = %d, %d, want ErrNil", n, v, e)
		}
		if v, e := k.Take(n); v != 0 || e != api.ErrNil {
			t.Errorf("Take(%d) of a nil Backward = %d, %d, want ErrNil", n, v, e)
		}
		if e := k.Skip(n); e != api.ErrNil {
			t.Errorf("Skip(%d) of nil = %d, want ErrNil", n, e)
		}
		if v := k.Peek(n); v != 0 {
			t.Errorf("Peek(%d) of nil = %d, want 0", n, v)
		}
	}
	if n, e := f.Align(); n != 0 || e != api.ErrNil {
		t.Errorf("Align of nil = %d, %d, want ErrNil", n, e)
	}
	if f.At() != 0 || f.Left() != 0 || k.Left() != 0 {
		t.Errorf("nil: At %d, Left %d and %d, want 0", f.At(), f.Left(), k.Left())
	}
}

// The zero readers are not like nil: they have no bits.
func TestZeroReaders(t *testing.T) {
	var f bitin.Forward
	var k bitin.Backward
	wants := map[int][2]api.Errno{0: {api.OK, api.OK}, 1: {api.ErrShort, api.ErrBits}, 64: {api.ErrShort, api.ErrBits}}
	for _, n := range wrongCounts {
		wants[n] = [2]api.Errno{api.ErrArg, api.ErrArg}
	}
	for n, want := range wants {
		if v, e := f.Take(n); v != 0 || e != want[0] {
			t.Errorf("Take(%d) of the zero Forward = %d, %d, want %d", n, v, e, want[0])
		}
		if v, e := k.Take(n); v != 0 || e != want[1] {
			t.Errorf("Take(%d) of the zero Backward = %d, %d, want %d", n, v, e, want[1])
		}
		if e := k.Skip(n); e != want[1] {
			t.Errorf("Skip(%d) of the zero Backward = %d, want %d", n, e, want[1])
		}
		if v := k.Peek(n); v != 0 {
			t.Errorf("Peek(%d) of the zero Backward = %d, want 0", n, v)
		}
	}
	if n, e := f.Align(); n != 0 || e != api.OK {
		t.Errorf("Align of the zero Forward = %d, %d", n, e)
	}
	if f.At() != 0 || f.Left() != 0 || k.Left() != 0 {
		t.Errorf("zero: At %d, Left %d and %d, want 0", f.At(), f.Left(), k.Left())
	}
}

// P3.4

// definedPeek is Peek as the chapter says it: zero bits are written before the first one until there are n.
func definedPeek(unread model, n int) uint64 {
	n = min(max(n, 0), 64)
	padded := append(make(model, 64), unread...)
	return padded[len(padded)-n:].value()
}

func TestPeek(t *testing.T) {
	for size := 1; size <= 10; size++ {
		for _, b := range [][]byte{mixed(size), bytes.Repeat([]byte{0xff}, size)} {
			k, c := backward(t, b), unclosed(b)
			for {
				for n := -3; n <= 70; n++ {
					if got, want := k.Peek(n), definedPeek(c, n); got != want {
						t.Fatalf("Peek(%d) of %d bits = %#x, want %#x", n, len(c), got, want)
					}
				}
				for _, n := range wrongCounts {
					if got, want := k.Peek(n), definedPeek(c, n); got != want {
						t.Fatalf("Peek(%d) of %d bits = %#x, want %#x", n, len(c), got, want)
					}
				}
				if len(c) == 0 {
					break
				}
				c = wantBackward(t, k, c, 1)
			}
		}
	}
}

func TestPeekReadsNothing(t *testing.T) {
	b := mixed(20)
	k, c := backward(t, b), unclosed(b)
	for i := 0; len(c) > 0; i++ {
		n := min(i*7%65, len(c))
		first := k.Peek(n)
		if again := k.Peek(n); again != first || k.Left() != len(c) {
			t.Fatalf("Peek(%d) = %#x and then %#x, Left %d of %d", n, first, again, k.Left(), len(c))
		}
		v, e := k.Take(n)
		if v != first || e != api.OK {
			t.Fatalf("Take(%d) = %#x, %d, but Peek said %#x", n, v, e, first)
		}
		c = c[:len(c)-n]
	}
}

// Skip moves as Take does.
func TestSkip(t *testing.T) {
	b := mixed(12)
	for start := range 18 {
		for n := range 65 {
			k := backward(t, b)
			c := wantBackward(t, k, unclosed(b), start)
			if e := k.Skip(n); e != api.OK {
				t.Fatalf("Skip(%d) = %d", n, e)
			}
			drainBackward(t, k, c[:len(c)-n])
		}
	}
}

func TestSkipToTheLastBit(t *testing.T) {
	for size := 1; size <= 8; size++ {
		k := backward(t, mixed(size))
		if e := k.Skip(k.Left()); e != api.OK || k.Left() != 0 {
			t.Errorf("Skip of all bits of %d bytes = %d, Left %d", size, e, k.Left())
		}
		if e := k.Skip(1); e != api.ErrBits {
			t.Errorf("Skip(1) at the end = %d, want ErrBits", e)
		}
		if e := k.Skip(0); e != api.OK {
			t.Errorf("Skip(0) at the end = %d", e)
		}
	}
}

// P3.5

func low(n int) uint64 {
	if n == 64 {
		return math.MaxUint64
	}
	return 1<<n - 1
}

type field struct {
	v uint64
	n int
}

func checkFields(t *testing.T, fields []field) {
	t.Helper()
	var w bitout.Writer
	for _, x := range fields {
		if e := w.Put(x.v, x.n); e != api.OK {
			t.Fatalf("Put(%#x, %d) = %d", x.v, x.n, e)
		}
	}
	f, k := bitin.NewForward(w.Bytes()), backward(t, w.Close())
	if k.Left() != w.Len() {
		t.Fatalf("Left of the closed stream = %d, want %d", k.Left(), w.Len())
	}
	for i, x := range fields {
		if v, e := f.Take(x.n); v != x.v || e != api.OK {
			t.Fatalf("forward: field %d = %#x, %d, want %#x in %d bits", i, v, e, x.v, x.n)
		}
	}
	if n, e := f.Align(); n != len(w.Bytes()) || e != api.OK || f.Left() != 0 {
		t.Fatalf("Align over the padding = %d, %d, Left %d", n, e, f.Left())
	}
	for i := len(fields) - 1; i >= 0; i-- {
		x := fields[i]
		if v, e := k.Take(x.n); v != x.v || e != api.OK {
			t.Fatalf("backward: field %d = %#x, %d, want %#x in %d bits", i, v, e, x.v, x.n)
		}
	}
	if k.Left() != 0 {
		t.Fatalf("backward: %d bits are left", k.Left())
	}
}

func TestWrittenValuesAreRead(t *testing.T) {
	checkFields(t, nil)
	source := rand.New(rand.NewSource(3))
	for range 300 {
		fields := []field{}
		for range source.Intn(60) {
			n := source.Intn(65)
			fields = append(fields, field{source.Uint64() & low(n), n}, field{low(n), n}, field{0, n % 7})
		}
		checkFields(t, fields)
	}
}

func TestReadsCanBeJoined(t *testing.T) {
	b := mixed(11)
	for start := range 9 {
		for total := range 65 {
			for m := range total + 1 {
				n := total - m
				whole, parts := bitin.NewForward(b), bitin.NewForward(b)
				whole.Take(start)
				parts.Take(start)
				all, _ := whole.Take(total)
				first, _ := parts.Take(m)
				second, _ := parts.Take(n)
				if all != first|second<<m || whole.At() != parts.At() {
					t.Fatalf("forward: %d bits are %#x, but %d and %d are %#x and %#x", total, all, m, n, first, second)
				}
				back, halves := backward(t, b), backward(t, b)
				back.Take(start)
				halves.Take(start)
				all, _ = back.Take(total)
				first, _ = halves.Take(m)
				second, _ = halves.Take(n)
				if all != first<<n|second || back.Left() != halves.Left() {
					t.Fatalf("backward: %d bits are %#x, but %d and %d are %#x and %#x", total, all, m, n, first, second)
				}
			}
		}
	}
}

// Any bytes, read by any calls: every bit comes once, in its order, and failed calls change nothing.
func TestEveryBitIsReadOnce(t *testing.T) {
	source := rand.New(rand.NewSource(4))
	for range 500 {
		b := make([]byte, source.Intn(50))
		source.Read(b)
		f, m := bitin.NewForward(b), modelOf(b)
		for len(m) > 0 {
			n := source.Intn(65)
			if n <= len(m) {
				m = wantForward(t, f, m, n)
			} else if v, e := f.Take(n); v != 0 || e != api.ErrShort || f.Left() != len(m) {
				t.Fatalf("Take(%d) of %d bits = %#x, %d, want ErrShort", n, len(m), v, e)
			}
		}
		drainForward(t, f, m)
		k, e := bitin.NewBackward(b)
		if e != api.OK {
			continue
		}
		c := unclosed(b)
		for len(c) > 0 {
			n := source.Intn(65)
			if n <= len(c) {
				c = wantBackward(t, k, c, n)
			} else if v, e := k.Take(n); v != 0 || e != api.ErrBits || k.Left() != len(c) {
				t.Fatalf("Take(%d) of %d bits = %#x, %d, want ErrBits", n, len(c), v, e)
			}
		}
		drainBackward(t, k, c)
	}
}
