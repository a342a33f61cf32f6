package desc_test

import (
	"strings"
	"testing"

	"portmanteau/api"
)

// A stream is a text of the digits 0 and 1, in the order of the bits; spaces are for the eye.

// pack returns the bytes of a stream, whose last byte has zero bits behind the stream.
func pack(stream string) []byte {
	stream = strings.ReplaceAll(stream, " ", "")
	b := make([]byte, (len(stream)+7)/8)
	for i, digit := range stream {
		if digit == '1' {
			b[i/8] |= 1 << (i % 8)
		}
	}
	return b
}

// unpack returns the stream of bytes.
func unpack(b []byte) string {
	var stream strings.Builder
	for i := range 8 * len(b) {
		stream.WriteByte('0' + b[i/8]>>(i%8)&1)
	}
	return stream.String()
}

// digits returns the n lowest bits of a value, the least significant one first.
func digits(value, n int) string {
	var stream strings.Builder
	for i := range n {
		stream.WriteByte(byte('0' + value>>i&1))
	}
	return stream.String()
}

// value returns the value of a stream, the first bit being the least significant one.
func value(stream string) int {
	v := 0
	for i, digit := range stream {
		v += int(digit-'0') << i
	}
	return v
}

// shape returns b and u of the chapter's truncated binary code, by doubling.
func shape(m int) (b, u int) {
	for 2<<b <= m {
		b++
	}
	return b, 2<<b - m
}

// known keeps the truncated binary codes that have been listed.
var known = map[int][]string{}

// codes lists the truncated binary codes of 0..m-1: all of them are decoded, as the chapter says, and each number gets the code that leads to it.
func codes(m int) []string {
	if known[m] != nil {
		return known[m]
	}
	list := make([]string, m)
	b, u := shape(m)
	for t := range 1 << b {
		if t < u {
			list[t] = digits(t, b)
			continue
		}
		for c := range 2 {
			list[2*t+c-u] = digits(t, b) + digits(c, 1)
		}
	}
	known[m] = list
	return list
}

// described is the chapter's definition of the description, without the zero bits up to a byte boundary. It also describes norms that are too many or that do not sum to the number of states, as far as there are numbers for them.
func described(x api.Table) string {
	var stream strings.Builder
	stream.WriteString(digits(x.Log-1, 4))
	left, rest := 1<<x.Log, x.Norm
	for left > 0 && len(rest) > 0 {
		n := rest[0]
		rest = rest[1:]
		stream.WriteString(codes(left + 2)[n+1])
		left -= states(n)
		if n != 0 {
			continue
		}
		run := 0
		for run < len(rest) && rest[run] == 0 {
			run++
		}
		rest = rest[run:]
		stream.WriteString(strings.Repeat("11", run/3) + digits(run%3, 2))
	}
	return stream.String()
}

// source is a stream that is read.
type source struct {
	stream string
	at     int
	short  bool
}

// take reads n bits, if they are there.
func (s *source) take(n int) int {
	if s.short || s.at+n > len(s.stream) {
		s.short = true
		return 0
	}
	s.at += n
	return value(s.stream[s.at-n : s.at])
}

// number reads a number in truncated binary code.
func (s *source) number(m int) int {
	b, u := shape(m)
	t := s.take(b)
	if t < u {
		return t
	}
	return 2*t + s.take(1) - u
}

// decoded is the chapter's definition of Decode: the table and the number of bytes read, or the first failure in reading order.
func decoded(b []byte, symbols, log int) (api.Table, int, api.Errno) {
	s := source{stream: unpack(b)}
	symbols, log = min(symbols, maxSymbols), min(log, maxLog)
	x := api.Table{Log: 1 + s.take(4)}
	if s.short {
		return api.Table{}, 0, api.ErrShort
	}
	if x.Log > log {
		return api.Table{}, 0, api.ErrTable
	}
	run := false
	for left := 1 << x.Log; left > 0; {
		if len(x.Norm) >= symbols {
			return api.Table{}, 0, api.ErrTable
		}
		n := s.number(left+2) - 1
		if s.short {
			return api.Table{}, 0, api.ErrShort
		}
		if run && n == 0 {
			return api.Table{}, 0, api.ErrTable
		}
		x.Norm, left, run = append(x.Norm, n), left-states(n), n == 0
		for more := run; more; {
			if len(x.Norm) >= symbols {
				return api.Table{}, 0, api.ErrTable
			}
			part := s.take(2)
			if s.short {
				return api.Table{}, 0, api.ErrShort
			}
			x.Norm, more = append(x.Norm, make([]int, part)...), part == 3
		}
	}
	size := (s.at + 7) / 8
	if strings.Contains(s.stream[s.at:8*size], "1") {
		return api.Table{}, 0, api.ErrBits
	}
	return x, size, api.OK
}

// The model itself, on what the chapter says of truncated binary codes: they have b or b + 1 bits, and none begins with another.
func TestTheCodesOfTheModel(t *testing.T) {
	for m := 2; m <= 514; m++ {
		b, _ := shape(m)
		list := codes(m)
		sum := 0
		for n, code := range list {
			if len(code) != b && len(code) != b+1 {
				t.Fatalf("the code of %d of %d is %q", n, m, code)
			}
			sum += 2 << b >> len(code)
			s := source{stream: code + "10"}
			if got := s.number(m); got != n || s.at != len(code) || s.short {
				t.Fatalf("the code %q of %d of %d is read as %d", code, n, m, got)
			}
		}
		if sum != 2<<b {
			t.Fatalf("the codes of the numbers below %d are not complete", m)
		}
	}
}
