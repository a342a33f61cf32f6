package bitout_test

import (
	"bytes"
	"math"
	"math/rand"
	"testing"

	"portmanteau/api"
	"portmanteau/bitout"
)

// model is a stream as the chapter defines it: its bits, one by one.
type model []bool

func (m model) put(v uint64, n int) model {
	for i := range n {
		m = append(m, v>>i&1 == 1)
	}
	return m
}

func (m model) bytes() []byte {
	out := make([]byte, (len(m)+7)/8)
	for i, bit := range m {
		if bit {
			out[i/8] |= 1 << (i % 8)
		}
	}
	return out
}

func (m model) close() []byte {
	return append(append(model{}, m...), true).bytes()
}

func compare(t *testing.T, w *bitout.Writer, m model) {
	t.Helper()
	if got := w.Len(); got != len(m) {
		t.Fatalf("Len = %d, want %d", got, len(m))
	}
	if got := w.Bytes(); !bytes.Equal(got, m.bytes()) {
		t.Fatalf("Bytes after %d bits = % x, want % x", len(m), got, m.bytes())
	}
	if got := w.Close(); !bytes.Equal(got, m.close()) {
		t.Fatalf("Close after %d bits = % x, want % x", len(m), got, m.close())
	}
}

func put(t *testing.T, w *bitout.Writer, v uint64, n int) {
	t.Helper()
	if e := w.Put(v, n); e != api.OK {
		t.Fatalf("Put(%#x, %d) = %d", v, n, e)
	}
}

// written returns a stream of n bits that are not all alike.
func written(t *testing.T, n int) (*bitout.Writer, model) {
	t.Helper()
	w, m := new(bitout.Writer), model{}
	for i := range n {
		bit := uint64(i*i/3+i) & 1
		put(t, w, bit, 1)
		m = m.put(bit, 1)
	}
	return w, m
}

func low(n int) uint64 {
	if n == 64 {
		return math.MaxUint64
	}
	return 1<<n - 1
}

// P2.1

func TestExamples(t *testing.T) {
	var w bitout.Writer
	put(t, &w, 5, 3)
	put(t, &w, 1, 2)
	if a, b, n := w.Bytes(), w.Close(), w.Len(); !bytes.Equal(a, []byte{0x0d}) || !bytes.Equal(b, []byte{0x2d}) || n != 5 {
		t.Errorf("Bytes % x, Close % x, Len %d, want 0d, 2d, 5", a, b, n)
	}
	if e := w.Put(4, 2); e != api.ErrArg {
		t.Errorf("Put(4, 2) = %d, want ErrArg", e)
	}
	if e := new(bitout.Writer).Put(4, 2); e != api.ErrArg {
		t.Errorf("Put(4, 2) of an empty Writer = %d, want ErrArg", e)
	}
	var empty bitout.Writer
	if a, b, n := empty.Bytes(), empty.Close(), empty.Len(); len(a) != 0 || !bytes.Equal(b, []byte{1}) || n != 0 {
		t.Errorf("empty Writer: Bytes % x, Close % x, Len %d, want none, 01, 0", a, b, n)
	}
}

// Every number of bits, behind every number of bits that begin a byte.
func TestPutAtEveryPlace(t *testing.T) {
	for start := range 17 {
		for n := range 65 {
			for _, v := range []uint64{0, 1, math.MaxUint64, 1 << 63, 0x123456789abcdef0, 0xaaaaaaaaaaaaaaaa, 0x8000000000000001} {
				for _, v := range []uint64{v & low(n), v >> (64 - n)} {
					w, m := written(t, start)
					put(t, w, v, n)
					m = m.put(v, n)
					compare(t, w, m)
					put(t, w, 0x2d, 6)
					compare(t, w, m.put(0x2d, 6))
				}
			}
		}
	}
}

func TestPutOfNothing(t *testing.T) {
	for start := range 10 {
		w, m := written(t, start)
		put(t, w, 0, 0)
		compare(t, w, m)
	}
}

func TestPutOfWrongArguments(t *testing.T) {
	type args struct {
		v uint64
		n int
	}
	wrong := []args{
		{0, -1}, {0, 65}, {1, -1}, {1, 65}, {math.MaxUint64, 65}, {math.MaxUint64, -1},
		{0, -8}, {0, -63}, {0, -64}, {0, -65}, {0, 66}, {0, 72}, {0, 128}, {0, 256}, {0, 1 << 32},
		{0, math.MinInt}, {0, math.MaxInt}, {5, math.MinInt}, {5, math.MaxInt}, {0, math.MinInt64 + 8},
	}
	for n := range 64 {
		wrong = append(wrong, args{low(n) + 1, n}, args{math.MaxUint64, n}, args{1 << 63, n})
	}
	for start := range 10 {
		w, m := written(t, start)
		for _, a := range wrong {
			if e := w.Put(a.v, a.n); e != api.ErrArg {
				t.Fatalf("Put(%#x, %d) = %d, want ErrArg", a.v, a.n, e)
			}
			compare(t, w, m)
		}
		put(t, w, 0x5a5, 11)
		compare(t, w, m.put(0x5a5, 11))
	}
}

// P2.2

func TestNilWriter(t *testing.T) {
	var none *bitout.Writer
	for _, n := range []int{0, 1, 64, 65, -1, math.MinInt, math.MaxInt} {
		for _, v := range []uint64{0, 1, math.MaxUint64} {
			if e := none.Put(v, n); e != api.ErrNil {
				t.Errorf("Put(%#x, %d) of nil = %d, want ErrNil", v, n, e)
			}
		}
	}
	if n, a, b := none.Len(), none.Bytes(), none.Close(); n != 0 || a != nil || b != nil {
		t.Errorf("nil: Len %d, Bytes % x, Close % x", n, a, b)
	}
}

func TestZeroWriterIsReady(t *testing.T) {
	var w bitout.Writer
	compare(t, &w, nil)
	put(t, &w, 1, 1)
	compare(t, &w, model{true})
}

// The stream is looked at after every few bits, and goes on as if it had not been.
func TestPutAfterBytesAndClose(t *testing.T) {
	looked, plain, m := new(bitout.Writer), new(bitout.Writer), model{}
	for i := range 200 {
		n := i % 7
		v := uint64(i*37) & low(n)
		put(t, looked, v, n)
		put(t, plain, v, n)
		m = m.put(v, n)
		compare(t, looked, m)
		compare(t, looked, m)
	}
	compare(t, plain, m)
}

// A slice that was returned and the Writer do not change each other, and neither do two returned slices.
func TestResultsAreNew(t *testing.T) {
	for start := range 40 {
		w, m := written(t, start)
		for name, get := range map[string]func() []byte{"Bytes": w.Bytes, "Close": w.Close} {
			first, second := get(), get()
			kept := bytes.Clone(second)
			for i := range first {
				first[i] ^= 0xff
			}
			for i := range first[:cap(first)] {
				first[:cap(first)][i] = 0x77
			}
			if !bytes.Equal(second, kept) {
				t.Errorf("%s: two results share memory", name)
			}
			compare(t, w, m)
			put(t, w, 0x1ffffffff, 33)
			m = m.put(0x1ffffffff, 33)
			if !bytes.Equal(second, kept) {
				t.Errorf("%s: Put changed what was returned before", name)
			}
			compare(t, w, m)
		}
	}
}

// Two streams do not touch each other.
func TestTwoWriters(t *testing.T) {
	a, ma := written(t, 13)
	b, mb := written(t, 30)
	put(t, a, 0x3ff, 10)
	put(t, b, 0, 9)
	compare(t, a, ma.put(0x3ff, 10))
	compare(t, b, mb.put(0, 9))
}

// P2.3

func TestSplitValues(t *testing.T) {
	for start := range 9 {
		for n := range 65 {
			v := uint64(0xd6e8feb86659fd93) & low(n)
			whole, m := written(t, start)
			put(t, whole, v, n)
			compare(t, whole, m.put(v, n))
			for k := range n + 1 {
				parts, _ := written(t, start)
				put(t, parts, v&low(k), k)
				put(t, parts, v>>k, n-k)
				if whole.Len() != parts.Len() || !bytes.Equal(whole.Bytes(), parts.Bytes()) || !bytes.Equal(whole.Close(), parts.Close()) {
					t.Fatalf("%d bits, split at %d, are % x, at once % x", n, k, parts.Close(), whole.Close())
				}
			}
		}
	}
}

func TestSizeOfBytes(t *testing.T) {
	var w bitout.Writer
	for n := range 300 {
		if a, b := len(w.Bytes()), len(w.Close()); a != (n+7)/8 || b != n/8+1 {
			t.Errorf("%d bits: Bytes has %d bytes, Close %d", n, a, b)
		}
		if closed := w.Close(); closed[len(closed)-1] == 0 {
			t.Errorf("%d bits: the closed stream % x ends with 0", n, closed)
		}
		put(t, &w, 0, 1)
	}
}

// No two of all short bit sequences close to the same bytes, and one sequence closes to the same bytes however it was written.
func TestClosedStreamsDiffer(t *testing.T) {
	seen := map[string]model{}
	for n := range 18 {
		for v := range uint64(1) << n {
			var w bitout.Writer
			put(t, &w, v, n)
			m := model{}.put(v, n)
			closed := string(w.Close())
			if other, ok := seen[closed]; ok {
				t.Fatalf("%v and %v both close to % x", other, m, closed)
			}
			seen[closed] = m
			var bitwise bitout.Writer
			for i := range n {
				put(t, &bitwise, v>>i&1, 1)
			}
			if got := string(bitwise.Close()); got != closed {
				t.Fatalf("%v closes to % x and % x", m, closed, got)
			}
		}
	}
}

func TestManyPuts(t *testing.T) {
	source := rand.New(rand.NewSource(2))
	for range 100 {
		w, m := new(bitout.Writer), model{}
		for range 100 {
			n := source.Intn(65)
			v := source.Uint64() & low(n)
			put(t, w, v, n)
			m = m.put(v, n)
			if source.Intn(4) == 0 && n < 64 {
				w.Put(v|1<<n, n)
			}
		}
		compare(t, w, m)
	}
}
