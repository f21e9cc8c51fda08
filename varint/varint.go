// Package varint is layer 1: numbers in as few bytes as they need.
package varint

import "roving/api"

const (
	width   = 7          // bits of a number in each byte
	more    = 1 << width // set in each byte but the last one
	low     = more - 1   // the bits of a byte that are the number's
	longest = 6          // bytes of MaxNumber
)

// Put returns b followed by the bytes of n, in new memory.
func Put(b []byte, n int) ([]byte, api.Errno) {
	if !isNumber(n) {
		return nil, api.ErrArg
	}
	o := make([]byte, 0, len(b)+Len(n))
	return add(append(o, b...), n), api.OK
}

// Get returns the number whose bytes begin at the index at, and the index behind them.
func Get(b []byte, at int) (n, behind int, e api.Errno) {
	if at < 0 || at > len(b) {
		return 0, 0, api.ErrCode
	}
	r := reader{b, at}
	if n, e = r.next(); e != api.OK {
		return 0, 0, e
	}
	return n, r.at, api.OK
}

// Len returns how many bytes n has, or 0 if it is not a number.
func Len(n int) int {
	if !isNumber(n) {
		return 0
	}
	size := 1
	for n >>= width; n > 0; n >>= width {
		size++
	}
	return size
}

// Row returns the length of a list and its elements, all as numbers.
func Row(l []int) ([]byte, api.Errno) {
	var row []byte
	e := api.OK
	put := func(n int) {
		if !isNumber(n) {
			e = api.ErrArg
			return
		}
		row = add(row, n)
	}
	put(len(l))
	for _, n := range l {
		put(n)
	}
	if e != api.OK {
		return nil, e
	}
	return row, api.OK
}

// ReadRow returns the list whose Row is exactly b.
func ReadRow(b []byte) ([]int, api.Errno) {
	r := reader{b, 0}
	count, e := r.next()
	// An element has at least one byte: a count beyond what is left is wrong, and no memory may be taken for it.
	if e != api.OK || count > len(b)-r.at {
		return nil, api.ErrCode
	}
	l, e := collect(count, r.next)
	if e != api.OK || r.at != len(b) {
		return nil, api.ErrCode
	}
	return l, api.OK
}

func isNumber(n int) bool { return n >= 0 && n <= api.MaxNumber }

// add appends the bytes of a number to b, and may write into b's spare capacity.
func add(b []byte, n int) []byte {
	for ; n >= more; n >>= width {
		b = append(b, byte(n&low|more))
	}
	return append(b, byte(n))
}

// reader reads numbers one after another; its place is from 0 to the length of its bytes.
type reader struct {
	b  []byte
	at int
}

// next returns the number at the reader's place and moves behind it; the place stays where no number begins.
func (r *reader) next() (int, api.Errno) {
	n := 0
	// Behind the longest number's bytes the bits would be shifted out, and would not be missed.
	end := min(len(r.b), r.at+longest)
	for i, c := range r.b[r.at:end] {
		n |= int(c&low) << (i * width)
		if c&more != 0 {
			continue
		}
		// A last byte 0 behind others is one more than the number needs.
		if n > api.MaxNumber || c == 0 && i > 0 {
			break
		}
		r.at += i + 1
		return n, api.OK
	}
	return 0, api.ErrCode
}

// collect returns what count calls of next return.
func collect(count int, next func() (int, api.Errno)) ([]int, api.Errno) {
	l := make([]int, 0, count)
	for range count {
		n, e := next()
		if e != api.OK {
			return nil, e
		}
		l = append(l, n)
	}
	return l, api.OK
}
