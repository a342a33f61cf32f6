package num_test

import (
	"bytes"
	"math"
	"testing"

	"portmanteau/api"
	"portmanteau/num"
)

// skipped returns a cursor over b that stands behind a few other bytes, so that a cursor that is put back to 0 is noticed.
func skipped(t *testing.T, b []byte) *num.Cursor {
	t.Helper()
	c := num.New(append([]byte{1, 2, 3}, b...))
	if _, e := c.Bytes(3); e != api.OK {
		t.Fatal(e)
	}
	return c
}

// fails checks a failed read: its error, and that the cursor stands where it stood, before b.
func fails(t *testing.T, name string, c *num.Cursor, b []byte, zero bool, got, want api.Errno) {
	t.Helper()
	if got != want || !zero {
		t.Errorf("%s of % x: error %d, zero result %v, want error %d", name, b, got, zero, want)
	}
	if c.At() != 3 || c.Left() != len(b) || !bytes.Equal(c.Rest(), b) {
		t.Errorf("%s of % x failed and moved the cursor: at %d, left %d", name, b, c.At(), c.Left())
	}
}

func high(n int, last ...byte) []byte { return append(bytes.Repeat([]byte{0x80}, n), last...) }

// P1.2

func TestNewCopies(t *testing.T) {
	b := []byte{1, 2, 3}
	c := num.New(b)
	b[1] = 9
	if got := c.Rest(); !bytes.Equal(got, []byte{1, 2, 3}) || c.At() != 0 || c.Left() != 3 {
		t.Errorf("Rest = % x, at %d, left %d", got, c.At(), c.Left())
	}
	for _, b := range [][]byte{nil, {}} {
		c := num.New(b)
		if c == nil || c.Left() != 0 || c.End() != api.OK {
			t.Errorf("New of no bytes is not a cursor at its end")
		}
	}
}

func TestByte(t *testing.T) {
	c := num.New([]byte{0, 255})
	for i, want := range []byte{0, 255} {
		if got, e := c.Byte(); got != want || e != api.OK || c.At() != i+1 {
			t.Errorf("Byte = %d, %d, at %d, want %d", got, e, c.At(), want)
		}
	}
	c = skipped(t, nil)
	got, e := c.Byte()
	fails(t, "Byte", c, nil, got == 0, e, api.ErrShort)
}

func TestBytes(t *testing.T) {
	c := num.New([]byte{1, 2, 3, 4, 5})
	for _, want := range [][]byte{{}, {1, 2}, {}, {3, 4, 5}, {}} {
		before := c.At()
		if got, e := c.Bytes(len(want)); !bytes.Equal(got, want) || e != api.OK || c.At() != before+len(want) {
			t.Errorf("Bytes(%d) = % x, %d, at %d, want % x", len(want), got, e, c.At(), want)
		}
	}
	for _, b := range [][]byte{nil, {1, 2}} {
		for n, want := range map[int]api.Errno{-1: api.ErrArg, math.MinInt: api.ErrArg, 3: api.ErrShort, math.MaxInt: api.ErrShort} {
			c := skipped(t, b)
			got, e := c.Bytes(n)
			fails(t, "Bytes", c, b, len(got) == 0, e, want)
		}
	}
}

func TestBytesSharesNoMemory(t *testing.T) {
	c := num.New([]byte{1, 2, 3, 4})
	before := *c
	got, _ := c.Bytes(2)
	got[0] = 9
	_ = append(got, 8, 8)
	if b := before.Rest(); !bytes.Equal(b, []byte{1, 2, 3, 4}) {
		t.Errorf("the bytes of the cursor changed with the result: % x", b)
	}
}

func TestWord(t *testing.T) {
	c := num.New([]byte{1, 0, 0, 0, 0xef, 0xbe, 0xad, 0xde, 7})
	for i, want := range []uint32{1, 0xdeadbeef} {
		if got, e := c.Word(); got != want || e != api.OK || c.At() != 4*(i+1) {
			t.Errorf("Word = %#x, %d, at %d, want %#x", got, e, c.At(), want)
		}
	}
	for left := range 4 {
		b := []byte{5, 6, 7}[:left]
		c := skipped(t, b)
		got, e := c.Word()
		fails(t, "Word", c, b, got == 0, e, api.ErrShort)
	}
}

func TestVarint(t *testing.T) {
	for _, v := range varints {
		c := skipped(t, append(bytes.Clone(v.b), 0))
		if got, e := c.Varint(); got != v.n || e != api.OK || c.At() != 3+len(v.b) {
			t.Errorf("Varint of % x = %d, %d, at %d, want %d", v.b, got, e, c.At(), v.n)
		}
	}
}

// badVarints are not varints, with the error that comes first for each.
var badVarints = []struct {
	b []byte
	e api.Errno
}{
	{nil, api.ErrShort},
	{high(1), api.ErrShort},
	{high(8), api.ErrShort},
	{bytes.Repeat([]byte{0xff}, 8), api.ErrShort},
	{high(9), api.ErrLimit},
	{high(9, 0), api.ErrLimit},
	{high(9, 1), api.ErrLimit},
	{high(12, 1), api.ErrLimit},
	{high(1, 0), api.ErrMinimal},
	{high(1, 0, 1), api.ErrMinimal},
	{[]byte{0xff, 0}, api.ErrMinimal},
	{high(8, 0), api.ErrMinimal},
	{high(8, 64), api.ErrLimit},
	{high(8, 127), api.ErrLimit},
	{append(bytes.Repeat([]byte{0xff}, 8), 64), api.ErrLimit},
}

func TestVarintErrors(t *testing.T) {
	for _, bad := range badVarints {
		c := skipped(t, bad.b)
		got, e := c.Varint()
		fails(t, "Varint", c, bad.b, got == 0, e, bad.e)
	}
}

func TestNumber(t *testing.T) {
	for _, v := range varints {
		for _, most := range []int{int(v.n), math.MaxInt} {
			c := skipped(t, append(bytes.Clone(v.b), 0))
			if got, e := c.Number(most); got != int(v.n) || e != api.OK || c.At() != 3+len(v.b) {
				t.Errorf("Number(%d) of % x = %d, %d, at %d", most, v.b, got, e, c.At())
			}
		}
	}
	for _, most := range []int{0, -1, math.MinInt} {
		c := num.New([]byte{0})
		if got, e := c.Number(most); got != 0 || e != api.OK || c.At() != 1 {
			t.Errorf("Number(%d) of 00 = %d, %d", most, got, e)
		}
	}
}

func TestNumberErrors(t *testing.T) {
	for _, bad := range badVarints {
		for _, most := range []int{math.MinInt, -1, 0, 9, math.MaxInt} {
			c := skipped(t, bad.b)
			got, e := c.Number(most)
			fails(t, "Number", c, bad.b, got == 0, e, bad.e)
		}
	}
	for _, v := range varints[1:] {
		for _, most := range []int{math.MinInt, -1, 0, int(v.n) - 1} {
			c := skipped(t, v.b)
			got, e := c.Number(most)
			fails(t, "Number", c, v.b, got == 0, e, api.ErrLimit)
		}
	}
	c := skipped(t, []byte{0x0a})
	got, e := c.Number(9)
	fails(t, "Number(9)", c, []byte{0x0a}, got == 0, e, api.ErrLimit)
}

// A read that failed is no obstacle to the next one.
func TestReadAfterFailure(t *testing.T) {
	c := skipped(t, high(2))
	if _, e := c.Varint(); e != api.ErrShort {
		t.Error(e)
	}
	if _, e := c.Word(); e != api.ErrShort {
		t.Error(e)
	}
	if got, e := c.Bytes(2); e != api.OK || !bytes.Equal(got, high(2)) || c.End() != api.OK {
		t.Errorf("Bytes(2) = % x, %d", got, e)
	}
}

// P1.3

func TestSub(t *testing.T) {
	c := skipped(t, []byte{4, 5, 6, 7})
	s, e := c.Sub(3)
	if e != api.OK || s == nil {
		t.Fatal(e)
	}
	if s.At() != 0 || s.Left() != 3 || !bytes.Equal(s.Rest(), []byte{4, 5, 6}) || c.At() != 6 || c.Left() != 1 {
		t.Errorf("Sub: at %d, left %d, rest % x; the cursor at %d", s.At(), s.Left(), s.Rest(), c.At())
	}
	if got, e := c.Byte(); got != 7 || e != api.OK || s.At() != 0 {
		t.Errorf("reading the cursor: %d, %d; its part at %d", got, e, s.At())
	}
	if got, e := s.Bytes(3); !bytes.Equal(got, []byte{4, 5, 6}) || e != api.OK || c.At() != 7 {
		t.Errorf("reading the part: % x, %d; the cursor at %d", got, e, c.At())
	}
	if _, e := s.Byte(); e != api.ErrShort || s.End() != api.OK {
		t.Errorf("the part goes on behind its end: %d", e)
	}
	if s, e := c.Sub(0); e != api.OK || s == nil || s.Left() != 0 || s.End() != api.OK || c.At() != 7 {
		t.Errorf("Sub(0) at the end: %d", e)
	}
}

func TestSubErrors(t *testing.T) {
	for _, b := range [][]byte{nil, {1, 2}} {
		for n, want := range map[int]api.Errno{-1: api.ErrArg, math.MinInt: api.ErrArg, 3: api.ErrShort, math.MaxInt: api.ErrShort} {
			c := skipped(t, b)
			s, e := c.Sub(n)
			fails(t, "Sub", c, b, s == nil, e, want)
		}
	}
}

func TestRestAndPeek(t *testing.T) {
	c := skipped(t, []byte{4, 5, 6})
	wants := map[int][]byte{math.MinInt: nil, -1: nil, 0: nil, 1: {4}, 2: {4, 5}, 3: {4, 5, 6}, 4: {4, 5, 6}, math.MaxInt: {4, 5, 6}}
	for n, want := range wants {
		if got := c.Peek(n); !bytes.Equal(got, want) || c.At() != 3 {
			t.Errorf("Peek(%d) = % x, at %d, want % x", n, got, c.At(), want)
		}
	}
	if got := c.Rest(); !bytes.Equal(got, []byte{4, 5, 6}) || c.At() != 3 || c.Left() != 3 {
		t.Errorf("Rest = % x, at %d", got, c.At())
	}
	c = skipped(t, nil)
	if len(c.Rest()) != 0 || len(c.Peek(1)) != 0 || len(c.Peek(-1)) != 0 {
		t.Error("bytes behind the end")
	}
}

func TestRestAndPeekShareNoMemory(t *testing.T) {
	c := skipped(t, []byte{4, 5, 6})
	for _, look := range []func() []byte{c.Rest, func() []byte { return c.Peek(2) }, func() []byte { return c.Peek(99) }} {
		b := look()
		b[0] = 9
		_ = append(b, 8)
		if got := look(); got[0] != 4 || !bytes.Equal(c.Rest(), []byte{4, 5, 6}) {
			t.Errorf("the bytes of the cursor changed with the result: % x", c.Rest())
		}
	}
}

func TestAtLeftEnd(t *testing.T) {
	c := num.New([]byte{1, 2, 3})
	for i := range 3 {
		if c.At() != i || c.Left() != 3-i || c.End() != api.ErrTrail {
			t.Errorf("before byte %d: at %d, left %d, end %d", i, c.At(), c.Left(), c.End())
		}
		if _, e := c.Byte(); e != api.OK {
			t.Error(e)
		}
	}
	if c.At() != 3 || c.Left() != 0 || c.End() != api.OK || c.End() != api.OK {
		t.Errorf("at the end: at %d, left %d, end %d", c.At(), c.Left(), c.End())
	}
}

// reads calls every read method and says which error each returned and whether its result was zero.
func reads(c *num.Cursor, n int) (errors []api.Errno, zero bool) {
	a, e1 := c.Byte()
	b, e2 := c.Bytes(n)
	w, e3 := c.Word()
	v, e4 := c.Varint()
	m, e5 := c.Number(n)
	s, e6 := c.Sub(n)
	return []api.Errno{e1, e2, e3, e4, e5, e6}, a == 0 && len(b) == 0 && w == 0 && v == 0 && m == 0 && s == nil
}

var extremes = []int{math.MinInt, math.MinInt + 1, -1, 0, 1, math.MaxInt - 1, math.MaxInt}

// ErrNil comes before ErrArg.
func TestNilCursor(t *testing.T) {
	var c *num.Cursor
	for _, n := range extremes {
		errors, zero := reads(c, n)
		for i, e := range errors {
			if e != api.ErrNil || !zero {
				t.Errorf("read %d of a nil cursor with %d: %d, zero results %v", i, n, e, zero)
			}
		}
		if len(c.Peek(n)) != 0 {
			t.Errorf("Peek(%d) of a nil cursor is not empty", n)
		}
	}
	if c.At() != 0 || c.Left() != 0 || len(c.Rest()) != 0 || c.End() != api.ErrNil {
		t.Errorf("a nil cursor: at %d, left %d, rest % x, end %d", c.At(), c.Left(), c.Rest(), c.End())
	}
}

// The zero Cursor is not like nil: it reads an empty slice.
func TestZeroCursor(t *testing.T) {
	for _, n := range extremes {
		var c num.Cursor
		part := api.ErrShort
		if n < 0 {
			part = api.ErrArg
		}
		if n == 0 {
			part = api.OK
		}
		wants := []api.Errno{api.ErrShort, part, api.ErrShort, api.ErrShort, api.ErrShort, part}
		errors, zero := reads(&c, n)
		for i, e := range errors {
			if e != wants[i] {
				t.Errorf("read %d of the zero cursor with %d: %d, want %d", i, n, e, wants[i])
			}
		}
		if zero != (n != 0) {
			t.Errorf("reads of the zero cursor with %d: zero results %v", n, zero)
		}
		if c.At() != 0 || c.Left() != 0 || len(c.Rest()) != 0 || len(c.Peek(n)) != 0 || c.End() != api.OK {
			t.Errorf("the zero cursor: at %d, left %d, rest % x, end %d", c.At(), c.Left(), c.Rest(), c.End())
		}
	}
}

// A cursor that is copied as a value goes on by itself.
func TestCopiedCursor(t *testing.T) {
	c := skipped(t, []byte{4, 5})
	d := *c
	if got, e := d.Byte(); got != 4 || e != api.OK || c.At() != 3 {
		t.Errorf("Byte of the copy = %d, %d; the cursor at %d", got, e, c.At())
	}
	if got, e := c.Bytes(2); !bytes.Equal(got, []byte{4, 5}) || e != api.OK || d.At() != 4 {
		t.Errorf("Bytes of the cursor = % x, %d; the copy at %d", got, e, d.At())
	}
}
