package ring_test

import (
	"bytes"
	"iter"
	"math"
	"math/rand"
	"runtime"
	"slices"
	"testing"

	"portmanteau/api"
	"portmanteau/ring"
)

// The document's limits, written out once more, so that a wrong one in the package shows.
const (
	maxWindow = 134217728
	maxBlock  = 131072
)

var (
	wrongSizes     = []int{0, -1, -2, -1024, -maxWindow, math.MinInt32, math.MinInt, maxWindow + 1, maxWindow + 2, 2 * maxWindow, 1 << 32, 1<<32 + 4, math.MaxInt - 1, math.MaxInt}
	wrongLengths   = []int{-1, -2, -maxBlock, math.MinInt32, math.MinInt, maxBlock + 1, maxBlock + 2, 2 * maxBlock, 1 << 32, 1<<32 + 1, math.MaxInt - 1, math.MaxInt}
	wrongDistances = []int{0, -1, -2, -maxBlock, math.MinInt32, math.MinInt, math.MinInt + 1, maxWindow + 1, 1 << 32, 1<<32 + 1, math.MaxInt - 1, math.MaxInt}
)

// model is a ring as the chapter defines it: the initial bytes and the whole stream, none of them forgotten.
type model struct {
	size  int
	ahead int
	bytes []byte
}

func newModel(size int, ahead []byte) *model {
	return &model{size, len(ahead), slices.Clone(ahead)}
}

func (m *model) contents() []byte {
	return m.bytes[max(0, len(m.bytes)-m.size):]
}

func (m *model) add(b ...byte) {
	m.bytes = append(m.bytes, b...)
}

// copy appends one byte at a time, each equal to the one at distance off at that moment.
func (m *model) copy(off, n int) []byte {
	before := len(m.bytes)
	for range n {
		m.bytes = append(m.bytes, m.bytes[len(m.bytes)-off])
	}
	return slices.Clone(m.bytes[before:])
}

func (m *model) total() int {
	return len(m.bytes) - m.ahead
}

// entry is what an iterator produces at a time.
type entry struct {
	distance int
	x        byte
}

// entries returns everything that an iterator produces.
func entries(all iter.Seq2[int, byte]) []entry {
	out := []entry{}
	for distance, x := range all {
		out = append(out, entry{distance, x})
	}
	return out
}

// entriesOf returns what All produces for given contents.
func entriesOf(contents []byte) []entry {
	out := []entry{}
	for i, x := range contents {
		out = append(out, entry{len(contents) - i, x})
	}
	return out
}

// mixed returns n bytes that are not all alike, others for every seed.
func mixed(n int, seed int64) []byte {
	b := make([]byte, n)
	rand.New(rand.NewSource(seed)).Read(b)
	return b
}

// counted returns n bytes of which no two near ones are alike, the first one being from.
func counted(from, n int) []byte {
	b := make([]byte, n)
	for i := range b {
		b[i] = byte(from + i)
	}
	return b
}

func newRing(t *testing.T, size int, ahead []byte) *ring.Ring {
	t.Helper()
	r, e := ring.New(size, ahead)
	if r == nil || e != api.OK {
		t.Fatalf("New(%d, %d bytes) = %v, %d", size, len(ahead), r, e)
	}
	return r
}

func add(t *testing.T, r *ring.Ring, b ...byte) {
	t.Helper()
	if e := r.Add(b...); e != api.OK {
		t.Fatalf("Add(%d bytes) = %d", len(b), e)
	}
}

// wantRing compares everything that a ring tells of itself with the model.
func wantRing(t *testing.T, r *ring.Ring, m *model) {
	t.Helper()
	contents := m.contents()
	if r.Size() != m.size || r.Len() != len(contents) || r.Total() != m.total() {
		t.Fatalf("Size, Len, Total = %d, %d, %d, want %d, %d, %d", r.Size(), r.Len(), r.Total(), m.size, len(contents), m.total())
	}
	if got := r.Last(len(contents)); !bytes.Equal(got, contents) {
		t.Fatalf("Last(%d) = % x, want % x", len(contents), got, contents)
	}
	if got := entries(r.All()); !slices.Equal(got, entriesOf(contents)) {
		t.Fatalf("All = %v, want %v", got, entriesOf(contents))
	}
	for i, want := range contents {
		if x, ok := r.Byte(len(contents) - i); x != want || !ok {
			t.Fatalf("Byte(%d) = %d, %v, want %d", len(contents)-i, x, ok, want)
		}
	}
	if x, ok := r.Byte(len(contents) + 1); x != 0 || ok {
		t.Fatalf("Byte(%d) = %d, %v, want 0, false", len(contents)+1, x, ok)
	}
}

// rings calls f with rings of small sizes, with fewer, as many and more initial bytes and stream bytes than the size, so that the window ends at every place.
func rings(t *testing.T, f func(r *ring.Ring, m *model)) {
	t.Helper()
	for size := 1; size <= 6; size++ {
		for ahead := range 2*size + 2 {
			for stream := range 2*size + 2 {
				first, second := counted(1, ahead), counted(101, stream)
				r, m := newRing(t, size, first), newModel(size, first)
				add(t, r, second...)
				m.add(second...)
				f(r, m)
			}
		}
	}
}

// missing returns the rings that are none.
func missing() map[string]*ring.Ring {
	return map[string]*ring.Ring{"nil": nil, "zero": {}}
}

// allocated returns how many bytes f allocates, whether they are freed again or not.
func allocated(f func()) uint64 {
	var before, after runtime.MemStats
	runtime.ReadMemStats(&before)
	f()
	runtime.ReadMemStats(&after)
	return after.TotalAlloc - before.TotalAlloc
}

// The chapter's table

func TestExampleAdd(t *testing.T) {
	r := newRing(t, 4, []byte("ab"))
	if r.Len() != 2 || r.Total() != 0 {
		t.Errorf("Len, Total = %d, %d, want 2, 0", r.Len(), r.Total())
	}
	if e := r.Add([]byte("cde")...); e != api.OK {
		t.Errorf("Add = %d", e)
	}
	if r.Len() != 4 || r.Total() != 3 {
		t.Errorf("Len, Total = %d, %d, want 4, 3", r.Len(), r.Total())
	}
	if got := r.Last(9); string(got) != "bcde" {
		t.Errorf("Last(9) = %q", got)
	}
	if x, ok := r.Byte(1); x != 'e' || !ok {
		t.Errorf("Byte(1) = %q, %v", x, ok)
	}
	if x, ok := r.Byte(5); x != 0 || ok {
		t.Errorf("Byte(5) = %q, %v", x, ok)
	}
}

func TestExampleCopy(t *testing.T) {
	r := newRing(t, 4, []byte("ab"))
	add(t, r, []byte("cde")...)
	if got, e := r.Copy(2, 5); string(got) != "deded" || e != api.OK {
		t.Errorf("Copy(2, 5) = %q, %d", got, e)
	}
	if got := r.Last(4); string(got) != "eded" || r.Total() != 8 {
		t.Errorf("Last(4), Total = %q, %d, want eded, 8", got, r.Total())
	}
	for _, c := range []struct {
		off, n int
		e      api.Errno
	}{{5, 1, api.ErrSeq}, {0, 0, api.ErrSeq}, {1, -1, api.ErrArg}} {
		if got, e := r.Copy(c.off, c.n); len(got) != 0 || e != c.e {
			t.Errorf("Copy(%d, %d) = %q, %d, want %d", c.off, c.n, got, e, c.e)
		}
	}
}

func TestExampleNew(t *testing.T) {
	if r, e := ring.New(0, nil); r != nil || e != api.ErrArg {
		t.Errorf("New(0, nil) = %v, %d", r, e)
	}
	if got := newRing(t, 2, []byte("abc")).Last(2); string(got) != "bc" {
		t.Errorf("Last(2) = %q", got)
	}
}

// P6.1

func TestNewSizes(t *testing.T) {
	for _, size := range []int{1, 2, 3, 7, 1023, 1024, 131072, maxWindow - 1, maxWindow} {
		for _, ahead := range [][]byte{nil, {}, {7}, []byte("some more")} {
			wantRing(t, newRing(t, size, ahead), newModel(size, ahead))
		}
	}
}

func TestNewRejectsSizes(t *testing.T) {
	for _, size := range wrongSizes {
		for _, ahead := range [][]byte{nil, {}, {7}, []byte("some more")} {
			if r, e := ring.New(size, ahead); r != nil || e != api.ErrArg {
				t.Errorf("New(%d, %d bytes) = %v, %d, want nil, ErrArg", size, len(ahead), r, e)
			}
		}
	}
}

func TestNewInitialBytes(t *testing.T) {
	for size := 1; size <= 20; size++ {
		for n := range 3*size + 2 {
			ahead := counted(n, n)
			wantRing(t, newRing(t, size, ahead), newModel(size, ahead))
		}
	}
}

func TestGreatestWindow(t *testing.T) {
	ahead := make([]byte, maxWindow+3)
	ahead[0], ahead[1], ahead[2], ahead[3], ahead[4], ahead[maxWindow+2] = 1, 2, 3, 4, 5, 6
	r := newRing(t, maxWindow, ahead)
	for _, want := range []struct {
		off int
		x   byte
		ok  bool
	}{{maxWindow + 1, 0, false}, {maxWindow, 4, true}, {maxWindow - 1, 5, true}, {2, 0, true}, {1, 6, true}} {
		if x, ok := r.Byte(want.off); x != want.x || ok != want.ok {
			t.Errorf("Byte(%d) = %d, %v, want %d, %v", want.off, x, ok, want.x, want.ok)
		}
	}
	if got, e := r.Copy(maxWindow, 2); !bytes.Equal(got, []byte{4, 5}) || e != api.OK {
		t.Errorf("Copy(MaxWindow, 2) = %d, %d", got, e)
	}
	if got := r.Last(4); !bytes.Equal(got, []byte{0, 6, 4, 5}) || r.Len() != maxWindow || r.Total() != 2 {
		t.Errorf("Last(4), Len, Total = %d, %d, %d", got, r.Len(), r.Total())
	}
	if got, e := r.Copy(maxWindow+1, 2); len(got) != 0 || e != api.ErrSeq {
		t.Errorf("Copy(MaxWindow+1, 2) = %d, %d, want ErrSeq", got, e)
	}
}

func TestWindowTakesNoMemoryAhead(t *testing.T) {
	used := allocated(func() {
		r := newRing(t, maxWindow, []byte("ab"))
		add(t, r, counted(0, 1000)...)
		r.Clone()
	})
	if used > 1<<16 {
		t.Errorf("a window of %d with 1002 bytes takes %d bytes of memory", maxWindow, used)
	}
}

func TestForgottenBytesTakeNoMemory(t *testing.T) {
	r, b := newRing(t, 1000, nil), mixed(1000, 1)
	used := allocated(func() {
		for range 10000 {
			r.Add(b...)
		}
	})
	if used > 1<<16 || r.Total() != 10000000 || r.Len() != 1000 {
		t.Errorf("after %d bytes, a window of 1000 takes %d bytes of memory", r.Total(), used)
	}
}

func TestAddNoBytes(t *testing.T) {
	rings(t, func(r *ring.Ring, m *model) {
		add(t, r)
		add(t, r, nil...)
		add(t, r, []byte{}...)
		wantRing(t, r, m)
	})
}

func TestAddEveryLength(t *testing.T) {
	rings(t, func(r *ring.Ring, m *model) {
		for n := range 3*m.size + 2 {
			b, c, d := counted(201, n), r.Clone(), *m
			d.bytes = slices.Clone(m.bytes)
			add(t, c, b...)
			d.add(b...)
			wantRing(t, c, &d)
		}
	})
}

func TestAddByteByByte(t *testing.T) {
	for size := 1; size <= 9; size++ {
		r, m := newRing(t, size, nil), newModel(size, nil)
		for i := range 5 * size {
			add(t, r, byte(i))
			m.add(byte(i))
			wantRing(t, r, m)
		}
	}
}

func TestAddWithoutRing(t *testing.T) {
	for name, r := range missing() {
		for _, b := range [][]byte{nil, {}, {1}, {1, 2, 3}} {
			if e := r.Add(b...); e != api.ErrNil {
				t.Errorf("Add(%d bytes) of a %s ring = %d, want ErrNil", len(b), name, e)
			}
		}
		if r.Len() != 0 || r.Total() != 0 || r.Last(5) != nil {
			t.Errorf("a %s ring is changed by Add", name)
		}
	}
}

func TestArgumentsAreNotKeptOrChanged(t *testing.T) {
	whole := counted(1, 20)
	ahead, stream := whole[0:5:10], whole[10:16:20]
	r, m := newRing(t, 8, ahead), newModel(8, ahead)
	add(t, r, stream...)
	m.add(stream...)
	r.Copy(3, 4)
	m.copy(3, 4)
	if !bytes.Equal(whole, counted(1, 20)) {
		t.Errorf("the arguments are changed: % x", whole)
	}
	clear(whole)
	wantRing(t, r, m)
}

func TestResultsShareNoMemory(t *testing.T) {
	rings(t, func(r *ring.Ring, m *model) {
		if r.Len() == 0 {
			return
		}
		m.copy(1, 3)
		copied, e := r.Copy(1, 3)
		if e != api.OK {
			t.Fatalf("Copy(1, 3) = %d", e)
		}
		for _, b := range [][]byte{copied, r.Last(1), r.Last(r.Len()), r.Last(r.Len() + 1)} {
			b = append(b, 255)
			for i := range b {
				b[i] ^= 255
			}
		}
		wantRing(t, r, m)
		// And the other way round: the ring that goes on does not change what it returned.
		kept := r.Last(r.Len())
		before := slices.Clone(kept)
		add(t, r, counted(50, 2*m.size)...)
		if !bytes.Equal(kept, before) {
			t.Fatalf("Last is changed by a later Add: % x, was % x", kept, before)
		}
	})
}

func TestCopyEveryDistanceAndLength(t *testing.T) {
	rings(t, func(r *ring.Ring, m *model) {
		for off := 1; off <= len(m.contents()); off++ {
			for n := range 3*m.size + 2 {
				c, d := r.Clone(), *m
				d.bytes = slices.Clone(m.bytes)
				want := d.copy(off, n)
				got, e := c.Copy(off, n)
				if !bytes.Equal(got, want) || e != api.OK {
					t.Fatalf("size %d, contents % x: Copy(%d, %d) = % x, %d, want % x", m.size, m.contents(), off, n, got, e, want)
				}
				wantRing(t, c, &d)
			}
		}
	})
}

func TestCopyGreatLengths(t *testing.T) {
	for _, size := range []int{1, 2, 1000, 1024, maxBlock - 1, maxBlock, maxBlock + 1, 300000} {
		first, second := mixed(size-size/3, 2), mixed(size-size/2, 3)
		for _, off := range []int{1, 2, 3, size / 2, size - 1, size} {
			if off < 1 || off > size {
				continue
			}
			for _, n := range []int{0, 1, maxBlock - 1, maxBlock} {
				r, m := newRing(t, size, first), newModel(size, first)
				add(t, r, second...)
				m.add(second...)
				want := m.copy(off, n)
				if got, e := r.Copy(off, n); !bytes.Equal(got, want) || e != api.OK {
					t.Fatalf("size %d: Copy(%d, %d) = %d bytes, %d", size, off, n, len(got), e)
				}
				if !bytes.Equal(r.Last(size), m.contents()) || r.Len() != size || r.Total() != m.total() {
					t.Fatalf("size %d after Copy(%d, %d): wrong contents, Len %d or Total %d", size, off, n, r.Len(), r.Total())
				}
			}
		}
	}
}

// wantRefused calls Copy, which must return e and change nothing.
func wantRefused(t *testing.T, r *ring.Ring, m *model, off, n int, e api.Errno) {
	t.Helper()
	if got, f := r.Copy(off, n); len(got) != 0 || f != e {
		t.Fatalf("size %d, %d bytes: Copy(%d, %d) = % x, %d, want %d", m.size, r.Len(), off, n, got, f, e)
	}
	wantRing(t, r, m)
}

func TestCopyRefusesLengths(t *testing.T) {
	rings(t, func(r *ring.Ring, m *model) {
		for _, n := range wrongLengths {
			// ErrArg comes before ErrSeq.
			for _, off := range []int{1, r.Len(), r.Len() + 1, 0, -1, math.MinInt, math.MaxInt} {
				wantRefused(t, r, m, off, n, api.ErrArg)
			}
		}
	})
}

func TestCopyRefusesDistances(t *testing.T) {
	rings(t, func(r *ring.Ring, m *model) {
		for _, n := range []int{0, 1, 5, maxBlock} {
			for _, off := range append(wrongDistances[:len(wrongDistances):len(wrongDistances)], r.Len()+1, r.Len()+2, 2*r.Len()+1) {
				wantRefused(t, r, m, off, n, api.ErrSeq)
			}
		}
	})
}

func TestCopyWithoutRing(t *testing.T) {
	for name, r := range missing() {
		for _, off := range []int{1, 0, -1, 2, math.MinInt, math.MaxInt} {
			for _, n := range append(wrongLengths[:len(wrongLengths):len(wrongLengths)], 0, 1, maxBlock) {
				if got, e := r.Copy(off, n); len(got) != 0 || e != api.ErrNil {
					t.Errorf("Copy(%d, %d) of a %s ring = % x, %d, want ErrNil", off, n, name, got, e)
				}
			}
		}
	}
}

// P6.2

func TestByteOutOfRange(t *testing.T) {
	rings(t, func(r *ring.Ring, m *model) {
		for _, off := range append(wrongDistances[:len(wrongDistances):len(wrongDistances)], r.Len()+1, r.Len()+2, 2*r.Len()+1) {
			if x, ok := r.Byte(off); x != 0 || ok {
				t.Fatalf("%d bytes: Byte(%d) = %d, %v, want 0, false", r.Len(), off, x, ok)
			}
		}
	})
}

func TestLastEveryNumber(t *testing.T) {
	rings(t, func(r *ring.Ring, m *model) {
		contents := m.contents()
		for n := 1; n <= len(contents); n++ {
			if got, want := r.Last(n), contents[len(contents)-n:]; !bytes.Equal(got, want) {
				t.Fatalf("contents % x: Last(%d) = % x", contents, n, got)
			}
		}
		for _, n := range []int{len(contents) + 1, len(contents) + 2, m.size + 1, maxWindow + 1, 1 << 32, math.MaxInt - 1, math.MaxInt} {
			if got := r.Last(n); !bytes.Equal(got, contents) {
				t.Fatalf("contents % x: Last(%d) = % x", contents, n, got)
			}
		}
		for _, n := range []int{0, -1, -2, -m.size, math.MinInt32, math.MinInt} {
			if got := r.Last(n); len(got) != 0 {
				t.Fatalf("contents % x: Last(%d) = % x, want none", contents, n, got)
			}
		}
		wantRing(t, r, m)
	})
}

func TestAllLeftEarlyAndUsedAgain(t *testing.T) {
	rings(t, func(r *ring.Ring, m *model) {
		all, want := r.All(), entriesOf(m.contents())
		for stop := range len(want) {
			got := []entry{}
			for distance, x := range all {
				got = append(got, entry{distance, x})
				if len(got) > stop {
					break
				}
			}
			if !slices.Equal(got, want[:stop+1]) {
				t.Fatalf("All, left after %d = %v, want %v", stop+1, got, want[:stop+1])
			}
		}
		for range 2 {
			if got := entries(all); !slices.Equal(got, want) {
				t.Fatalf("All, used again = %v, want %v", got, want)
			}
		}
	})
}

func TestAllOfARingThatChanges(t *testing.T) {
	rings(t, func(r *ring.Ring, m *model) {
		all, want := r.All(), entriesOf(m.contents())
		add(t, r, 99)
		if got := entries(all); !slices.Equal(got, want) {
			t.Fatalf("All, called before Add = %v, want %v", got, want)
		}
		got := []entry{}
		for distance, x := range all {
			got = append(got, entry{distance, x})
			add(t, r, 98)
			r.Copy(1, 2)
		}
		if !slices.Equal(got, want) {
			t.Fatalf("All, with an Add in the loop = %v, want %v", got, want)
		}
		add(t, r, counted(201, 2*m.size)...)
		if got := entries(all); !slices.Equal(got, want) {
			t.Fatalf("All, called long before = %v, want %v", got, want)
		}
	})
}

func TestContentsWithoutRing(t *testing.T) {
	for name, r := range missing() {
		for _, n := range []int{0, 1, 2, -1, math.MinInt, math.MaxInt} {
			if x, ok := r.Byte(n); x != 0 || ok {
				t.Errorf("Byte(%d) of a %s ring = %d, %v", n, name, x, ok)
			}
			if got := r.Last(n); len(got) != 0 {
				t.Errorf("Last(%d) of a %s ring = % x", n, name, got)
			}
		}
		all := r.All()
		for range 2 {
			if got := entries(all); len(got) != 0 {
				t.Errorf("All of a %s ring = %v", name, got)
			}
		}
	}
}

func TestContentsOfAnEmptyRing(t *testing.T) {
	for _, size := range []int{1, 2, 1024, maxWindow} {
		for _, ahead := range [][]byte{nil, {}} {
			wantRing(t, newRing(t, size, ahead), newModel(size, nil))
		}
	}
}

// P6.3

func TestNumbersWithoutRing(t *testing.T) {
	for name, r := range missing() {
		if r.Size() != 0 || r.Len() != 0 || r.Total() != 0 {
			t.Errorf("Size, Len, Total of a %s ring = %d, %d, %d", name, r.Size(), r.Len(), r.Total())
		}
		if c := r.Clone(); c != nil {
			t.Errorf("Clone of a %s ring = %v", name, c)
		}
	}
}

func TestTotalLeavesOutInitialBytes(t *testing.T) {
	r := newRing(t, 10, mixed(100, 4))
	want := 0
	for i := range 50 {
		if r.Total() != want {
			t.Fatalf("Total = %d, want %d", r.Total(), want)
		}
		add(t, r, mixed(i, 5)...)
		if _, e := r.Copy(3, 2*i); e != api.OK {
			t.Fatalf("Copy = %d", e)
		}
		r.Copy(11, 1)
		want += 3 * i
	}
}

func TestCloneGoesOnByItself(t *testing.T) {
	rings(t, func(r *ring.Ring, m *model) {
		c := r.Clone()
		if c == r || !ring.Equal(c, r) {
			t.Fatalf("Clone is no equal ring of its own")
		}
		d := *m
		d.bytes = slices.Clone(m.bytes)
		wantRing(t, c, &d)
		for i := range 3 * m.size {
			add(t, r, byte(150+i))
			m.add(byte(150 + i))
			wantRing(t, c, &d)
			add(t, c, byte(200+i), 7)
			d.add(byte(200+i), 7)
			wantRing(t, r, m)
			if got, e := c.Copy(1, i); !bytes.Equal(got, d.copy(1, i)) || e != api.OK {
				t.Fatalf("Copy(1, %d) of a clone = % x, %d", i, got, e)
			}
			wantRing(t, c, &d)
			wantRing(t, r, m)
		}
	})
}

func TestEqualRegardlessOfTheWay(t *testing.T) {
	for size := 1; size <= 7; size++ {
		for n := range size + 1 {
			contents := counted(11, n)
			same := []*ring.Ring{newRing(t, size, contents)}
			// The longer the bytes before a full window, the later it begins in memory.
			for before := range size + 1 {
				if n < size && before > 0 {
					break
				}
				r := newRing(t, size, counted(101, before))
				add(t, r, contents...)
				same = append(same, r)
			}
			for _, a := range same {
				for _, b := range same {
					if !ring.Equal(a, b) {
						t.Fatalf("size %d: Equal of two rings with % x is false (Total %d, %d)", size, contents, a.Total(), b.Total())
					}
				}
			}
		}
	}
}

func TestEqualSeesEveryByte(t *testing.T) {
	for size := 1; size <= 7; size++ {
		contents := counted(11, size)
		for turned := range size {
			a := newRing(t, size, counted(101, turned))
			add(t, a, contents...)
			for at := range size {
				for _, flip := range []byte{1, 128, 255} {
					other := slices.Clone(contents)
					other[at] ^= flip
					b := newRing(t, size, other)
					if ring.Equal(a, b) || ring.Equal(b, a) {
						t.Fatalf("size %d, turned by %d: Equal of % x and % x is true", size, turned, contents, other)
					}
				}
			}
		}
	}
}

func TestEqualSeesSizeAndLength(t *testing.T) {
	contents := []byte("abcd")
	for _, size := range []int{4, 5, 8, 1024, maxWindow} {
		for _, other := range []int{4, 5, 8, 1024, maxWindow} {
			if got := ring.Equal(newRing(t, size, contents), newRing(t, other, contents)); got != (size == other) {
				t.Errorf("Equal of sizes %d and %d with the same contents = %v", size, other, got)
			}
		}
	}
	long := newRing(t, 8, []byte("aaaa"))
	for n := range 9 {
		short := newRing(t, 8, bytes.Repeat([]byte("a"), n))
		if ring.Equal(long, short) != (n == 4) || ring.Equal(short, long) != (n == 4) {
			t.Errorf("Equal of contents of 4 and %d bytes is wrong", n)
		}
	}
}

func TestEqualWithoutRing(t *testing.T) {
	for name, a := range missing() {
		for another, b := range missing() {
			if !ring.Equal(a, b) {
				t.Errorf("Equal of a %s and a %s ring is false", name, another)
			}
		}
		for _, b := range []*ring.Ring{newRing(t, 1, nil), newRing(t, 4, nil), newRing(t, 4, []byte("ab")), newRing(t, maxWindow, nil)} {
			if ring.Equal(a, b) || ring.Equal(b, a) {
				t.Errorf("Equal of a %s ring and one of size %d is true", name, b.Size())
			}
		}
	}
}

// P6.4

func TestDivisionOfTheStreamDoesNotMatter(t *testing.T) {
	source := rand.New(rand.NewSource(6))
	for range 300 {
		size, ahead, stream := 1+source.Intn(40), mixed(source.Intn(60), source.Int63()), mixed(source.Intn(200), source.Int63())
		whole, pieces, m := newRing(t, size, ahead), newRing(t, size, ahead), newModel(size, ahead)
		add(t, whole, stream...)
		m.add(stream...)
		for rest := stream; len(rest) > 0; {
			n := min(len(rest), source.Intn(2*size))
			add(t, pieces, rest[:n]...)
			rest = rest[n:]
		}
		wantRing(t, whole, m)
		wantRing(t, pieces, m)
		// Appended bytes are as good as initial ones.
		initial := newRing(t, size, append(slices.Clone(ahead), stream...))
		if !ring.Equal(whole, pieces) || !ring.Equal(whole, initial) || !ring.Equal(initial, pieces) {
			t.Fatalf("size %d: rings of the same %d bytes differ", size, len(m.bytes))
		}
	}
}

func TestCopyIsAddOfWhatItReturns(t *testing.T) {
	source := rand.New(rand.NewSource(7))
	for range 300 {
		size := 1 + source.Intn(40)
		r := newRing(t, size, mixed(1+source.Intn(60), source.Int63()))
		added := r.Clone()
		for range 20 {
			off, n := 1+source.Intn(r.Len()), source.Intn(3*size)
			bytesSoFar := r.Last(size)
			copied, e := r.Copy(off, n)
			if len(copied) != n || e != api.OK {
				t.Fatalf("Copy(%d, %d) = %d bytes, %d", off, n, len(copied), e)
			}
			add(t, added, copied...)
			if !ring.Equal(r, added) || r.Total() != added.Total() {
				t.Fatalf("Copy(%d, %d) and Add of its result differ", off, n)
			}
			joined := append(bytesSoFar, copied...)
			for i := len(joined) - n; i < len(joined); i++ {
				if joined[i] != joined[i-off] {
					t.Fatalf("Copy(%d, %d): a byte differs from the one %d before it", off, n, off)
				}
			}
		}
	}
}

func TestRandomCalls(t *testing.T) {
	source := rand.New(rand.NewSource(8))
	for range 200 {
		size, ahead := 1+source.Intn(1<<source.Intn(10)), mixed(source.Intn(1<<source.Intn(10)), source.Int63())
		r, m := newRing(t, size, ahead), newModel(size, ahead)
		for range 40 {
			off, n := source.Intn(size+4)-1, source.Intn(2*size+2)
			if source.Intn(2) == 0 {
				b := mixed(n, source.Int63())
				add(t, r, b...)
				m.add(b...)
			} else if off < 1 || off > len(m.contents()) {
				wantRefused(t, r, m, off, n, api.ErrSeq)
			} else if got, e := r.Copy(off, n); !bytes.Equal(got, m.copy(off, n)) || e != api.OK {
				t.Fatalf("Copy(%d, %d) = %d bytes, %d", off, n, len(got), e)
			}
			wantRing(t, r, m)
			if source.Intn(8) == 0 {
				r = r.Clone()
			}
		}
	}
}
