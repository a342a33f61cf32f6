package desc_test

import (
	"bytes"
	"math"
	"math/rand"
	"slices"
	"strings"
	"testing"

	"portmanteau/api"
	"portmanteau/desc"
	"portmanteau/norm"
	"portmanteau/num"
)

// encode is Encode of a table that has a description.
func encode(t *testing.T, x api.Table) []byte {
	t.Helper()
	b, e := desc.Encode(x)
	if e != api.OK {
		t.Fatalf("Encode({%d %v of %d}): %d", x.Log, brief(x.Norm), len(x.Norm), e)
	}
	return b
}

// wantTable decodes bytes in which a description of so many bytes is, and holds the table and the place of the cursor against what they must be.
func wantTable(t *testing.T, b []byte, symbols, log int, want api.Table, size int) {
	t.Helper()
	c := num.New(b)
	got, e := desc.Decode(c, symbols, log)
	if e != api.OK || got.Log != want.Log || !slices.Equal(got.Norm, want.Norm) {
		t.Errorf("Decode(% x of %d, %d, %d) = {%d %v of %d}, %d, want {%d %v of %d}", brief(b), len(b), symbols, log, got.Log, brief(got.Norm), len(got.Norm), e, want.Log, brief(want.Norm), len(want.Norm))
	}
	if c.At() != size || !bytes.Equal(c.Rest(), b[size:]) {
		t.Errorf("Decode(% x of %d, %d, %d): the cursor is at %d, want %d", brief(b), len(b), symbols, log, c.At(), size)
	}
}

// wantError decodes bytes that do not begin with a description, at least not within those bounds.
func wantError(t *testing.T, b []byte, symbols, log int, want api.Errno) {
	t.Helper()
	c := num.New(b)
	got, e := desc.Decode(c, symbols, log)
	if e != want || got.Log != 0 || got.Norm != nil {
		t.Errorf("Decode(% x of %d, %d, %d) = {%d %v of %d}, %d, want error %d", brief(b), len(b), symbols, log, got.Log, brief(got.Norm), len(got.Norm), e, want)
	}
	if c.At()+c.Left() != len(b) {
		t.Errorf("Decode(% x of %d, %d, %d): the cursor has %d bytes behind it and %d ahead", brief(b), len(b), symbols, log, c.At(), c.Left())
	}
}

// wantAsModel holds Decode against the chapter's definition.
func wantAsModel(t *testing.T, b []byte, symbols, log int) {
	t.Helper()
	want, size, e := decoded(b, symbols, log)
	if e != api.OK {
		wantError(t, b, symbols, log, e)
		return
	}
	wantTable(t, b, symbols, log, want, size)
}

// great is bounds that are far away from those of all tables.
func great() []int {
	return []int{math.MinInt, math.MinInt + 1, math.MinInt32, -65, -64, -2, -1, 257, 258, 511, 512, 513, 1000, math.MaxInt32, math.MaxInt - 1, math.MaxInt}
}

// The table of examples

func TestExamples(t *testing.T) {
	for _, x := range []struct {
		table  api.Table
		stream string
		want   []byte
	}{
		{api.Table{Log: 1, Norm: []int{1, 1}}, "0000 01 1 1", []byte{0xe0}},
		{api.Table{Log: 2, Norm: []int{4}}, "1000 11 1 0", []byte{0x71}},
	} {
		if got := encode(t, x.table); !bytes.Equal(got, x.want) || !bytes.Equal(got, pack(x.stream)) {
			t.Errorf("Encode(%v) = % x, want % x", x.table, got, x.want)
		}
		wantTable(t, x.want, 256, 9, x.table, 1)
	}
	wantError(t, []byte{0x0f}, 256, 9, api.ErrTable)
	wantError(t, nil, 256, 9, api.ErrShort)
}

// P11.1

// sample is a table with its description.
type sample struct {
	why    string
	table  api.Table
	stream string
}

// handmade returns descriptions that were written by hand.
func handmade() []sample {
	return []sample{
		{"one symbol", api.Table{Log: 1, Norm: []int{2}}, "0000 11"},
		{"two symbols", api.Table{Log: 1, Norm: []int{1, 1}}, "0000 01 11"},
		{"rare symbols", api.Table{Log: 1, Norm: []int{-1, -1}}, "0000 00 0"},
		{"a rare symbol first", api.Table{Log: 1, Norm: []int{-1, 1}}, "0000 00 11"},
		{"a rare symbol last", api.Table{Log: 1, Norm: []int{1, -1}}, "0000 01 0"},
		{"a 0 alone", api.Table{Log: 1, Norm: []int{0, 2}}, "0000 10 00 11"},
		{"2 zeros", api.Table{Log: 1, Norm: []int{0, 0, 2}}, "0000 10 10 11"},
		{"3 zeros", api.Table{Log: 1, Norm: []int{0, 0, 0, 2}}, "0000 10 01 11"},
		{"4 zeros", api.Table{Log: 1, Norm: []int{0, 0, 0, 0, 2}}, "0000 10 11 00 11"},
		{"5 zeros", api.Table{Log: 1, Norm: []int{0, 0, 0, 0, 0, 2}}, "0000 10 11 10 11"},
		{"6 zeros", api.Table{Log: 1, Norm: []int{0, 0, 0, 0, 0, 0, 2}}, "0000 10 11 01 11"},
		{"7 zeros", api.Table{Log: 1, Norm: []int{0, 0, 0, 0, 0, 0, 0, 2}}, "0000 10 11 11 00 11"},
		{"255 zeros", api.Table{Log: 1, Norm: behind(255, 2)}, "0000 10" + strings.Repeat("11", 84) + "01 11"},
		{"253 zeros", api.Table{Log: 1, Norm: behind(253, 2)}, "0000 10" + strings.Repeat("11", 84) + "00 11"},
		{"a 0 in the middle", api.Table{Log: 1, Norm: []int{1, 0, 1}}, "0000 01 10 00 11"},
		{"two runs", api.Table{Log: 1, Norm: []int{0, 0, -1, 0, 0, 0, 0, 1}}, "0000 10 10 00 10 11 00 11"},
		{"short and long codes", api.Table{Log: 2, Norm: []int{2, -1, 1}}, "1000 011 00 11"},
		{"one state is left", api.Table{Log: 2, Norm: []int{3, 1}}, "1000 110 11"},
		{"the longest code", api.Table{Log: 9, Norm: []int{512}}, "0001 111111111 1"},
		{"the greatest short code", api.Table{Log: 9, Norm: []int{508, 4}}, "0001 101111111 11 1"},
		{"the least long code", api.Table{Log: 9, Norm: []int{509, 3}}, "0001 011111111 0 11 1"},
	}
}

func TestEncodeOfKnownTables(t *testing.T) {
	for _, x := range handmade() {
		stream := strings.ReplaceAll(x.stream, " ", "")
		if got := encode(t, x.table); !bytes.Equal(got, pack(stream)) {
			t.Errorf("%s: the description is %q, want %q", x.why, unpack(got), stream)
		}
		if got := desc.BitLen(x.table); got != len(stream) {
			t.Errorf("%s: BitLen = %d, want %d", x.why, got, len(stream))
		}
	}
}

func TestEncodeAgainstTheDefinition(t *testing.T) {
	for _, x := range slices.Concat(valid(), small()) {
		stream := described(x)
		if got := encode(t, x); !bytes.Equal(got, pack(stream)) {
			t.Errorf("{%d %v of %d}: the description is %q, want %q", x.Log, brief(x.Norm), len(x.Norm), unpack(got), stream)
		}
		if got := desc.BitLen(x); got != len(stream) {
			t.Errorf("BitLen({%d %v of %d}) = %d, want %d", x.Log, brief(x.Norm), len(x.Norm), got, len(stream))
		}
	}
}

// wantNoDescription holds Encode and BitLen of a table without a description.
func wantNoDescription(t *testing.T, x api.Table) {
	t.Helper()
	if b, e := desc.Encode(x); b != nil || e != api.ErrTable {
		t.Errorf("Encode({%d %v of %d}) = % x, %d, want ErrTable", x.Log, brief(x.Norm), len(x.Norm), b, e)
	}
	if n := desc.BitLen(x); n != 0 {
		t.Errorf("BitLen({%d %v of %d}) = %d, want 0", x.Log, brief(x.Norm), len(x.Norm), n)
	}
}

func TestEncodeOfInvalidTables(t *testing.T) {
	for _, x := range invalid() {
		wantNoDescription(t, x)
	}
}

// A table with Log 0 may be valid, but it has no description.
func TestEncodeOfLogZero(t *testing.T) {
	for _, x := range flat() {
		wantNoDescription(t, x)
	}
}

// A table of 256 norms is the longest; the greatest Log is 9.
func TestTheLimitsOfEncode(t *testing.T) {
	for log := -1; log <= 17; log++ {
		for _, length := range []int{1, 2, 255, 256, 257, 258, 1000} {
			x := api.Table{Log: log, Norm: behind(length-1, 1<<max(log, 0))}
			if log < 1 || log > 9 || length > 256 {
				wantNoDescription(t, x)
			} else if got, n, stream := encode(t, x), desc.BitLen(x), described(x); !bytes.Equal(got, pack(stream)) || n != len(stream) {
				t.Errorf("the Log %d and %d norms: % x, %d bits, want %q", log, length, got, n, stream)
			}
		}
	}
}

// Neither the norms nor what is behind them changes, and no result is another one's memory.
func TestEncodeKeepsItsArgument(t *testing.T) {
	for _, x := range chosen() {
		room := joined(x.Norm, []int{-77, -78, -79})
		own := api.Table{Log: x.Log, Norm: room[:len(x.Norm)]}
		first, n := encode(t, own), desc.BitLen(own)
		if !slices.Equal(room, joined(x.Norm, []int{-77, -78, -79})) {
			t.Fatalf("the norms %v of %d changed", brief(x.Norm), len(x.Norm))
		}
		want := bytes.Clone(first)
		for i := range first {
			first[i] ^= 0xff
		}
		if second := encode(t, own); !bytes.Equal(second, want) || desc.BitLen(own) != n {
			t.Fatalf("{%d %v of %d}: % x became % x", x.Log, brief(x.Norm), len(x.Norm), want, second)
		}
	}
}

// P11.2

func TestDecodeOfKnownTables(t *testing.T) {
	for _, x := range handmade() {
		b := pack(x.stream)
		wantTable(t, b, 256, 9, x.table, len(b))
	}
}

func TestDecodeAgainstTheDefinition(t *testing.T) {
	for _, x := range slices.Concat(valid(), small()) {
		b := pack(described(x))
		wantTable(t, b, 256, 9, x, len(b))
	}
}

// A nil cursor comes ahead of everything else.
func TestDecodeOfNilCursor(t *testing.T) {
	for _, symbols := range append(great(), 0, 1, 2, 256) {
		for _, log := range append(great(), 0, 1, 2, 9) {
			if x, e := desc.Decode(nil, symbols, log); x.Log != 0 || x.Norm != nil || e != api.ErrNil {
				t.Errorf("Decode(nil, %d, %d) = %v, %d, want ErrNil", symbols, log, x, e)
			}
		}
	}
}

// The zero cursor has no bytes, as one at its end.
func TestDecodeWithoutBytes(t *testing.T) {
	for _, symbols := range append(great(), 0, 1, 2, 256) {
		for _, log := range append(great(), 0, 1, 2, 9) {
			read := num.New([]byte{0xe0})
			if _, e := read.Byte(); e != api.OK {
				t.Fatalf("Byte: %d", e)
			}
			for why, c := range map[string]*num.Cursor{"zero": {}, "of nil": num.New(nil), "of no bytes": num.New([]byte{}), "at its end": read} {
				if x, e := desc.Decode(c, symbols, log); x.Log != 0 || x.Norm != nil || e != api.ErrShort {
					t.Errorf("a cursor that is %s, %d, %d: %v, %d, want ErrShort", why, symbols, log, x, e)
				}
			}
		}
	}
}

// The cursor may have bytes behind it, and stands directly behind the description then.
func TestDecodeInTheMiddle(t *testing.T) {
	for _, x := range chosen() {
		b := encode(t, x)
		for _, before := range []int{1, 5, 400} {
			c := num.New(slices.Concat(bytes.Repeat([]byte{0x5a}, before), b, []byte{0xa5, 0xc3}))
			if _, e := c.Bytes(before); e != api.OK {
				t.Fatalf("Bytes: %d", e)
			}
			got, e := desc.Decode(c, 256, 9)
			if e != api.OK || !norm.Equal(got, x) || c.At() != before+len(b) || !bytes.Equal(c.Rest(), []byte{0xa5, 0xc3}) {
				t.Errorf("{%d %v of %d} behind %d bytes: {%d %v of %d}, %d, the cursor is at %d, want %d", x.Log, brief(x.Norm), len(x.Norm), before, got.Log, brief(got.Norm), len(got.Norm), e, c.At(), before+len(b))
			}
		}
	}
}

// Several descriptions, one after the other.
func TestDecodeOneAfterTheOther(t *testing.T) {
	tables := chosen()
	var b []byte
	for _, x := range tables {
		b = append(b, encode(t, x)...)
	}
	c := num.New(b)
	for _, x := range tables {
		if got, e := desc.Decode(c, 256, 9); e != api.OK || !norm.Equal(got, x) {
			t.Fatalf("{%d %v of %d} is read as {%d %v of %d}, %d", x.Log, brief(x.Norm), len(x.Norm), got.Log, brief(got.Norm), len(got.Norm), e)
		}
	}
	if e := c.End(); e != api.OK {
		t.Errorf("%d bytes are left", c.Left())
	}
}

// bounds are those around n, and far ones.
func bounds(n int) []int {
	return append(great(), -1, 0, 1, n-1, n, n+1, 9, 10, 255, 256)
}

// The number of symbols is bounded by symbols and 256, the Log by log and 9.
func TestDecodeWithinBounds(t *testing.T) {
	for _, x := range valid() {
		b := encode(t, x)
		for _, symbols := range bounds(len(x.Norm)) {
			for _, log := range bounds(x.Log) {
				if symbols < len(x.Norm) || log < x.Log {
					wantError(t, b, symbols, log, api.ErrTable)
				} else {
					wantTable(t, b, symbols, log, x, len(b))
				}
			}
		}
	}
}

// A Log above 9 is none, whatever bound is given and whatever follows; neither is one above the bound.
func TestDecodeOfGreatLogs(t *testing.T) {
	for log := 1; log <= 16; log++ {
		for _, bound := range append(great(), -1, 0, 1, log-1, log, log+1, 8, 9, 10, 15, 16, 17) {
			for _, symbols := range append(great(), 0, 1, 2, 256) {
				for _, behind := range []string{"0000", "1111", strings.Repeat("1", 60), strings.Repeat("0", 3000)} {
					b := pack(digits(log-1, 4) + behind)
					if log > bound || log > 9 || symbols <= 0 {
						wantError(t, b, symbols, bound, api.ErrTable)
					} else {
						wantAsModel(t, b, symbols, bound)
					}
				}
			}
		}
	}
}

// A description of 257 norms is none, whatever bound is given; one of 256 norms is.
func TestDecodeOfOneNormTooMany(t *testing.T) {
	for _, x := range []api.Table{
		{Log: 9, Norm: joined(filled(255, 1), []int{257})}, {Log: 9, Norm: filled(256, 2)}, {Log: 8, Norm: filled(256, -1)}, {Log: 1, Norm: behind(255, 2)},
		{Log: 9, Norm: joined(filled(254, -1), []int{0, 258})}, {Log: 9, Norm: joined(slices.Repeat([]int{0, -1}, 127), []int{0, 385})}, {Log: 3, Norm: joined([]int{7}, behind(254, 1))},
	} {
		b := pack(described(x))
		long := pack(described(api.Table{Log: x.Log, Norm: joined(x.Norm[:255], []int{0}, x.Norm[255:])}))
		for _, symbols := range []int{256, 257, 258, 512, 1000, math.MaxInt} {
			wantTable(t, b, symbols, 9, x, len(b))
			wantError(t, long, symbols, 9, api.ErrTable)
		}
	}
}

// trial is a stream, the bounds with which it is read, and what must come of it.
type trial struct {
	why          string
	stream       string
	symbols, log int
	want         api.Errno
}

// Streams that end after their last bit are whole bytes here, so that the bytes end there.
func TestDecodeOfKnownFailures(t *testing.T) {
	for _, x := range []trial{
		{"a Log above the bound", "1000 11 1 0", 1, 1, api.ErrTable},
		{"a Log above the bound 0", "0000 11 00", 1, 0, api.ErrTable},
		{"a Log above the bound, and no norms allowed", "1000 0000", 0, 1, api.ErrTable},
		{"a Log of 10", "1001 0000", 256, 10, api.ErrTable},
		{"a Log of 16", "1111 0000", 256, 16, api.ErrTable},
		{"no norms allowed", "0000 11 00", 0, 1, api.ErrTable},
		{"fewer than none allowed", "0000 11 00", -1, 1, api.ErrTable},
		{"no norms allowed, and the next number is not there", "0000 0000", 0, 9, api.ErrTable},
		{"one norm read, one allowed, states left, bytes left", "0000 01 11", 1, 1, api.ErrTable},
		{"two norms read, two allowed, states left, no bytes left", "1000 00 00", 2, 2, api.ErrTable},
		{"two norms read, three allowed, states left, no bytes left", "1000 00 00", 3, 2, api.ErrShort},
		{"all allowed norms read, and only a part of a number there", "1000 01 1 0", 1, 9, api.ErrTable},
		{"one more norm allowed, and only a part of its number there", "1000 01 1 0", 2, 9, api.ErrShort},
		{"all allowed norms read, ahead of a run length that is there", "0000 10 00", 1, 9, api.ErrTable},
		{"one more norm allowed, and an empty run, then no bytes", "0000 10 00", 2, 9, api.ErrShort},
		{"all allowed norms read, ahead of a run length that is not there", "0000 01 10", 2, 9, api.ErrTable},
		{"one more norm allowed, ahead of a run length that is not there", "0000 01 10", 3, 9, api.ErrShort},
		{"a run up to the bound", "0000 10 11", 4, 9, api.ErrTable},
		{"a run up to the bound, less one", "0000 10 11", 5, 9, api.ErrShort},
		{"a run beyond the bound", "0000 10 11", 3, 9, api.ErrTable},
		{"a run far beyond the bound", "0000 10 11", 2, 9, api.ErrTable},
		{"a second part up to the bound", "0000 10 11 11 0000 11 00", 7, 9, api.ErrTable},
		{"a last part up to the bound", "0000 10 01", 3, 9, api.ErrTable},
		{"a last part beyond the bound", "0000 10 01", 2, 9, api.ErrTable},
		{"a last part up to the bound, less one", "0000 10 01", 4, 9, api.ErrShort},
		{"a 0 behind an empty run", "0000 10 00 10 000000", 256, 9, api.ErrTable},
		{"a 0 behind a run of 1", "0000 10 10 10 000000", 256, 9, api.ErrTable},
		{"a 0 behind a run of 2", "0000 10 01 10 000000", 256, 9, api.ErrTable},
		{"a 0 behind a run of 3", "0000 10 11 00 10 0000", 256, 9, api.ErrTable},
		{"no bytes left behind a run", "1000 10 00", 256, 9, api.ErrShort},
		{"a 0 behind a run, with the last bit of the bytes", "0000 10 11 11 11 10 10", 256, 9, api.ErrTable},
		{"a 0 behind a run, of which one bit is there", "1000 10 00 010 10 00 1", 256, 9, api.ErrShort},
		{"a 0 behind a run, and more norms than allowed", "0000 10 00 10 000000", 2, 9, api.ErrTable},
		{"a 0 behind a run, and as many norms as allowed", "0000 10 00 10 000000", 1, 9, api.ErrTable},
		{"a bit up to the byte boundary", "0000 11 10", 1, 1, api.ErrBits},
		{"the last bit up to the byte boundary", "0000 11 01", 1, 1, api.ErrBits},
		{"both bits up to the byte boundary", "0000 11 11", 1, 1, api.ErrBits},
		{"a bit up to the byte boundary, but a Log above the bound", "0000 11 01", 1, 0, api.ErrTable},
		{"a bit up to the byte boundary, but norms above the bound", "0000 11 01", 0, 1, api.ErrTable},
	} {
		b := pack(x.stream)
		wantAsModel(t, b, x.symbols, x.log)
		if _, e := desc.Decode(num.New(b), x.symbols, x.log); e != x.want {
			t.Errorf("%s: error %d, want %d", x.why, e, x.want)
		}
	}
}

// Each bit up to the byte boundary, and any of them together.
func TestDecodeOfPaddingThatIsNotZero(t *testing.T) {
	for _, x := range slices.Concat(valid(), all(3, 4)) {
		b := encode(t, x)
		used := (desc.BitLen(x)-1)%8 + 1
		for padding := 1 << used; padding < 256; padding += 1 << used {
			bad := bytes.Clone(b)
			bad[len(b)-1] |= byte(padding)
			wantError(t, bad, 256, 9, api.ErrBits)
			wantError(t, append(bad, 0, 0xff), len(x.Norm), x.Log, api.ErrBits)
			wantError(t, bad, len(x.Norm)-1, 9, api.ErrTable)
			wantError(t, bad, 256, x.Log-1, api.ErrTable)
		}
	}
}

// All strings of up to two bytes, with all bounds that matter to them.
func TestDecodeOfAllShortStrings(t *testing.T) {
	for _, symbols := range []int{-1, 0, 1, 2, 3, 4, 5, 6, 7, 256} {
		for _, log := range []int{-1, 0, 1, 2, 3, 9} {
			wantAsModel(t, nil, symbols, log)
			for first := range 256 {
				wantAsModel(t, []byte{byte(first)}, symbols, log)
			}
		}
	}
	for _, symbols := range []int{1, 2, 5, 256} {
		for both := range 1 << 16 {
			wantAsModel(t, []byte{byte(both), byte(both >> 8)}, symbols, 9)
		}
	}
}

// All strings of three bytes that begin with the Log 1, and some of the others.
func TestDecodeOfStringsOfThreeBytes(t *testing.T) {
	for value := 0; value < 1<<24; value += 16 {
		b := []byte{byte(value), byte(value >> 8), byte(value >> 16)}
		if value%(16*11) == 0 {
			wantAsModel(t, b, 256, 9)
		}
		if value%(16*61) == 0 {
			for log := 2; log <= 9; log++ {
				b[0]++
				wantAsModel(t, b, 256, 9)
			}
		}
	}
}

// Long strings, of all bytes, of few ones and of many, so that there are runs and rare symbols of all numbers.
func TestDecodeOfLongStrings(t *testing.T) {
	source := rand.New(rand.NewSource(12))
	for range 6000 {
		b := make([]byte, source.Intn(400))
		mask, ones := byte(source.Intn(256)), byte(source.Intn(256))
		if source.Intn(2) == 0 {
			mask, ones = 0xff, 0
		}
		for i := range b {
			b[i] = byte(source.Intn(256))&mask | ones&^mask
		}
		if len(b) > 0 {
			b[0] = b[0]&0xf0 | byte(source.Intn(9))
		}
		symbols := 256
		if source.Intn(3) == 0 {
			symbols = source.Intn(258)
		}
		wantAsModel(t, b, symbols, 9)
	}
}

// One bit or several ones of a description changed.
func TestDecodeOfChangedDescriptions(t *testing.T) {
	source := rand.New(rand.NewSource(13))
	for _, x := range chosen() {
		b := encode(t, x)
		for range 40 {
			changed := append(bytes.Clone(b), 0, 0, 0)
			for range 1 + source.Intn(3) {
				at := source.Intn(8 * len(b))
				changed[at/8] ^= 1 << (at % 8)
			}
			wantAsModel(t, changed, 256, 9)
			wantAsModel(t, changed[:len(b)], len(x.Norm), x.Log)
		}
	}
}

// Bytes that never come to an end: they are read no further than the bounds admit.
func TestDecodeOfEndlessStreams(t *testing.T) {
	for log := 1; log <= 9; log++ {
		zero := codes(1<<log + 2)[1]
		for _, x := range []trial{
			{why: "a run without an end", stream: digits(log-1, 4) + zero + strings.Repeat("11", 400000)},
			{why: "zeros without an end", stream: digits(log-1, 4) + strings.Repeat(zero+"00", 40000)},
			{why: "ones without an end", stream: digits(log-1, 4) + zero + "00" + strings.Repeat("1", 800000)},
			{why: "zero bits without an end", stream: digits(log-1, 4) + strings.Repeat("0", 800000)},
		} {
			b := pack(x.stream)
			for _, symbols := range []int{1, 2, 3, 4, 5, 255, 256, 257, math.MaxInt} {
				want, _, e := decoded(b[:1000], symbols, 9)
				got, f := desc.Decode(num.New(b), symbols, 9)
				if e != f || !norm.Equal(want, got) {
					t.Errorf("%s, the Log %d, %d symbols: {%d %v of %d}, %d, want error %d", x.why, log, symbols, got.Log, brief(got.Norm), len(got.Norm), f, e)
				}
			}
		}
	}
}

// A table that was read has its own memory.
func TestDecodeGivesItsOwnMemory(t *testing.T) {
	for _, x := range chosen() {
		b := encode(t, x)
		kept := bytes.Clone(b)
		first, e := desc.Decode(num.New(b), 256, 9)
		second, f := desc.Decode(num.New(b), 256, 9)
		if e != api.OK || f != api.OK {
			t.Fatalf("Decode: %d, %d", e, f)
		}
		for i := range first.Norm {
			first.Norm[i] = -99
		}
		if !norm.Equal(second, x) || !bytes.Equal(b, kept) {
			t.Errorf("{%d %v of %d} became {%d %v of %d}", x.Log, brief(x.Norm), len(x.Norm), second.Log, brief(second.Norm), len(second.Norm))
		}
		wantTable(t, b, 256, 9, x, len(b))
	}
}

// P11.3

// Decode of Encode, whatever bytes follow.
func TestTablesComeBack(t *testing.T) {
	source := rand.New(rand.NewSource(14))
	for _, x := range slices.Concat(valid(), small()) {
		b := encode(t, x)
		noise := make([]byte, 1+source.Intn(50))
		for i := range noise {
			noise[i] = byte(source.Intn(256))
		}
		for _, behind := range [][]byte{nil, {0}, {0xff}, b, bytes.Repeat([]byte{0xff}, 40), noise} {
			wantTable(t, slices.Concat(b, behind), len(x.Norm), x.Log, x, len(b))
		}
	}
}

// Any description has the only bytes that Encode gives its table, and its table is valid.
func wantCanonical(t *testing.T, b []byte, symbols, log int) {
	t.Helper()
	c := num.New(b)
	x, e := desc.Decode(c, symbols, log)
	if e != api.OK {
		return
	}
	if norm.Check(x, symbols, log) != api.OK || x.Log < 1 {
		t.Errorf("% x of %d: {%d %v of %d} is not valid for %d symbols and the Log %d", brief(b), len(b), x.Log, brief(x.Norm), len(x.Norm), symbols, log)
	}
	if again := encode(t, x); !bytes.Equal(again, b[:c.At()]) || desc.BitLen(x) > 8*c.At() || desc.BitLen(x) <= 8*c.At()-8 {
		t.Errorf("% x were read, but {%d %v of %d} is described by % x in %d bits", b[:c.At()], x.Log, brief(x.Norm), len(x.Norm), again, desc.BitLen(x))
	}
}

func TestBytesComeBack(t *testing.T) {
	for both := range 1 << 16 {
		for _, symbols := range []int{2, 256} {
			wantCanonical(t, []byte{byte(both), byte(both >> 8)}, symbols, 9)
		}
	}
	for value := 0; value < 1<<24; value += 16 {
		wantCanonical(t, []byte{byte(value), byte(value >> 8), byte(value >> 16)}, 256, 1)
	}
	source := rand.New(rand.NewSource(15))
	for range 20000 {
		b := make([]byte, 1+source.Intn(60))
		for i := range b {
			b[i] = byte(source.Intn(256))
		}
		b[0] = b[0]&0xf0 | byte(source.Intn(9))
		wantCanonical(t, b, 1+source.Intn(256), 1+source.Intn(9))
	}
}

// No two tables have one description: not even such as differ only between 1 and -1.
func TestDescriptionsAreDifferent(t *testing.T) {
	seen := map[string]api.Table{}
	for _, x := range small() {
		key := string(encode(t, x))
		if y, is := seen[key]; is {
			t.Errorf("%v and %v are both described by % x", x, y, key)
		}
		seen[key] = x
	}
}

// A description that ends too early, at every byte.
func TestTruncatedDescriptions(t *testing.T) {
	for _, x := range slices.Concat(valid(), small()) {
		b := encode(t, x)
		for size := range b {
			wantError(t, b[:size], len(x.Norm), x.Log, api.ErrShort)
			wantError(t, b[:size:size], 256, 9, api.ErrShort)
		}
	}
}
