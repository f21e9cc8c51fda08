package varint_test

import (
	"bytes"
	"math"
	"slices"
	"testing"

	"roving/api"
	"roving/varint"
)

// reference returns the bytes of a number by division, apart from how the program makes them.
func reference(n int) []byte {
	b := []byte{byte(n % 128)}
	for n /= 128; n > 0; n /= 128 {
		b[len(b)-1] += 128
		b = append(b, byte(n%128))
	}
	return b
}

// edges returns numbers at both ends, and at each change of how many bytes they have.
func edges() []int {
	l := []int{0, 1, 2, 5, 300, 1 << 20, api.MaxNumber - 1, api.MaxNumber}
	for size := 1; size <= 5; size++ {
		first := 1 << (7 * size)
		l = append(l, first-2, first-1, first, first+1, first+127, first+128)
	}
	return l
}

// spread returns numbers of all sizes, with many patterns of bits.
func spread() []int {
	l := edges()
	for x := 1; x <= api.MaxNumber; x = x*3 + 1 {
		l = append(l, x, x*2, x/2*5)
	}
	return slices.DeleteFunc(l, func(n int) bool { return n > api.MaxNumber })
}

func none() []int {
	return []int{-1, -2, -128, -300, api.MaxNumber + 1, api.MaxNumber + 2, 2 * api.MaxNumber, 1 << 42, 1 << 49, math.MinInt, math.MinInt + 1, math.MaxInt}
}

func TestPutHasTheBytesOfTheNumber(t *testing.T) { // P1.1
	for _, n := range spread() {
		want := reference(n)
		got, e := varint.Put(nil, n)
		if e != api.OK || !bytes.Equal(got, want) {
			t.Errorf("Put(nil, %d) = % x, %v; want % x", n, got, e, want)
		}
		if size := varint.Len(n); size != len(want) {
			t.Errorf("Len(%d) = %d; want %d", n, size, len(want))
		}
		got, e = varint.Put([]byte{0x80, 7}, n)
		if e != api.OK || !bytes.Equal(got, append([]byte{0x80, 7}, want...)) {
			t.Errorf("Put behind two bytes, %d = % x, %v", n, got, e)
		}
	}
}

func TestSizesChangeAtPowersOf128(t *testing.T) { // P1.1
	for n, want := range map[int]int{
		0: 1, 127: 1, 128: 2, 1<<14 - 1: 2, 1 << 14: 3, 1<<21 - 1: 3, 1 << 21: 4,
		1<<28 - 1: 4, 1 << 28: 5, 1<<35 - 1: 5, 1 << 35: 6, 1 << 40: 6,
	} {
		b, e := varint.Put(nil, n)
		if e != api.OK || len(b) != want || varint.Len(n) != want {
			t.Errorf("%d has % x, Len %d, %v; want %d bytes", n, b, varint.Len(n), e, want)
		}
	}
}

func TestWhatIsNoNumberIsNotPut(t *testing.T) { // P1.1
	for _, n := range none() {
		b, e := varint.Put([]byte{1, 2}, n)
		if e != api.ErrArg || len(b) != 0 {
			t.Errorf("Put(%d) = % x, %v", n, b, e)
		}
		if size := varint.Len(n); size != 0 {
			t.Errorf("Len(%d) = %d", n, size)
		}
	}
}

func TestPutLeavesItsArgument(t *testing.T) { // P1.1, R4
	for _, n := range append(edges(), none()...) {
		whole := bytes.Repeat([]byte{0xee}, 20)
		b := whole[:3]
		got, e := varint.Put(b, n)
		if !bytes.Equal(whole, bytes.Repeat([]byte{0xee}, 20)) {
			t.Fatalf("Put(%d) wrote into what it was given: % x", n, whole)
		}
		if e != api.OK {
			continue
		}
		again, _ := varint.Put(b, n)
		for i := range got {
			got[i] = 0x55
		}
		if !bytes.Equal(whole, bytes.Repeat([]byte{0xee}, 20)) || !bytes.Equal(again[:3], b) {
			t.Errorf("Put(%d) shares memory", n)
		}
	}
}

func TestGetAtEachIndex(t *testing.T) { // P1.1
	b := []byte{0x05, 0xac, 0x02, 0x00, 0x80, 0x80, 0x01, 0x80}
	type answer struct {
		n, behind int
		e         api.Errno
	}
	wrong := answer{0, 0, api.ErrCode}
	for at, want := range map[int]answer{
		0: {5, 1, api.OK}, 1: {300, 3, api.OK}, 2: {2, 3, api.OK}, 3: {0, 4, api.OK},
		4: {1 << 14, 7, api.OK}, 5: {128, 7, api.OK}, 6: {1, 7, api.OK}, 7: wrong, 8: wrong,
		9: wrong, 100: wrong, -1: wrong, -8: wrong, math.MinInt: wrong, math.MaxInt: wrong,
	} {
		n, behind, e := varint.Get(b, at)
		if (answer{n, behind, e}) != want {
			t.Errorf("Get(b, %d) = %d, %d, %v; want %v", at, n, behind, e, want)
		}
	}
	for _, at := range []int{-1, 0, 1} {
		if n, behind, e := varint.Get(nil, at); n != 0 || behind != 0 || e != api.ErrCode {
			t.Errorf("Get(nil, %d) = %d, %d, %v", at, n, behind, e)
		}
	}
}

// wrongBytes returns bytes with which no number's bytes begin.
func wrongBytes() map[string]string {
	return map[string]string{
		"empty":                      "",
		"breaks off behind one":      "\x80",
		"breaks off behind two":      "\xff\xff",
		"breaks off behind five":     "\x80\x80\x80\x80\x80",
		"a byte more for 0":          "\x80\x00",
		"two bytes more for 0":       "\x80\x80\x00",
		"a byte more for 127":        "\xff\x00",
		"a byte more for 300":        "\xac\x82\x00",
		"a byte more for five":       "\x80\x80\x80\x80\x81\x00",
		"a byte more for 2^40":       "\x80\x80\x80\x80\x80\xa0\x00",
		"2^40 + 1":                   "\x81\x80\x80\x80\x80\x20",
		"2^40 + 128":                 "\x80\x81\x80\x80\x80\x20",
		"2^40 + 2^35":                "\x80\x80\x80\x80\x80\x21",
		"2^41":                       "\x80\x80\x80\x80\x80\x40",
		"most in six bytes":          "\xff\xff\xff\xff\xff\x7f",
		"2^42":                       "\x80\x80\x80\x80\x80\x80\x01",
		"2^63":                       "\x80\x80\x80\x80\x80\x80\x80\x80\x80\x01",
		"2^64, shifted out":          "\x80\x80\x80\x80\x80\x80\x80\x80\x80\x02",
		"2^70, shifted out":          "\x80\x80\x80\x80\x80\x80\x80\x80\x80\x80\x01",
		"5 and bits shifted out":     "\x85\x80\x80\x80\x80\x80\x80\x80\x80\x80\x01",
		"eleven bytes and breaks":    "\xff\xff\xff\xff\xff\xff\xff\xff\xff\xff\xff",
		"seven bytes, the last is 0": "\x80\x80\x80\x80\x80\x80\x00",
	}
}

func TestGetOfWrongBytes(t *testing.T) { // P1.1
	for what, b := range wrongBytes() {
		for _, front := range []string{"", "\x00", "\x80\x01", "\xff"} {
			n, behind, e := varint.Get([]byte(front+b), len(front))
			if n != 0 || behind != 0 || e != api.ErrCode {
				t.Errorf("%s: Get(% x, %d) = %d, %d, %v", what, front+b, len(front), n, behind, e)
			}
		}
	}
}

func TestGetLeavesItsArgument(t *testing.T) { // P1.1, R4
	b := []byte{0xac, 0x02, 0xff}
	varint.Get(b, 0)
	varint.Get(b, 2)
	if !bytes.Equal(b, []byte{0xac, 0x02, 0xff}) {
		t.Errorf("Get changed what it was given: % x", b)
	}
}

// longRow returns a list with more elements than one byte can count.
func longRow() []int {
	var l []int
	for len(l) < 1000 {
		l = append(l, spread()...)
	}
	return l
}

func TestRowAndReadRow(t *testing.T) { // P1.2
	for _, l := range [][]int{nil, {}, {0}, {5}, {5, 300, 0}, {api.MaxNumber}, {0, 0, 0}, make([]int, 127), make([]int, 128), edges(), longRow()} {
		want := reference(len(l))
		for _, n := range l {
			want = append(want, reference(n)...)
		}
		b, e := varint.Row(l)
		if e != api.OK || !bytes.Equal(b, want) {
			t.Fatalf("Row of %d elements = % x, %v; want % x", len(l), b, e, want)
		}
		back, e := varint.ReadRow(b)
		if e != api.OK || !slices.Equal(back, l) {
			t.Fatalf("ReadRow(% x) = %v, %v; want %v", b, back, e, l)
		}
	}
}

func TestRowWithWhatIsNoNumber(t *testing.T) { // P1.2
	for _, n := range none() {
		for at := range 3 {
			l := []int{1, 300, 2}
			l[at] = n
			if b, e := varint.Row(l); e != api.ErrArg || len(b) != 0 {
				t.Errorf("Row(%v) = % x, %v", l, b, e)
			}
		}
		if b, e := varint.Row([]int{n}); e != api.ErrArg || len(b) != 0 {
			t.Errorf("Row of %d alone = % x, %v", n, b, e)
		}
	}
}

func TestRowLeavesItsArgument(t *testing.T) { // P1.2, R4
	whole := []int{7, 300, 9, 9}
	b, _ := varint.Row(whole[:2])
	again, _ := varint.Row(whole[:2])
	b[0] = 0xff
	if !slices.Equal(whole, []int{7, 300, 9, 9}) || !bytes.Equal(again, []byte{2, 7, 0xac, 2}) {
		t.Errorf("Row changed %v, or shares memory: % x", whole, again)
	}
}

func TestReadRowOfWrongBytes(t *testing.T) { // P1.2
	for what, b := range map[string]string{
		"an element too few":                "\x03\x05\x05",
		"no element":                        "\x01",
		"the last element breaks off":       "\x02\x05\x80",
		"an element with a byte more":       "\x02\x80\x00\x05",
		"an element above 2^40":             "\x01\x81\x80\x80\x80\x80\x20",
		"a byte behind the row":             "\x01\x05\x05",
		"a byte behind the empty row":       "\x00\x00",
		"a torn byte behind the row":        "\x01\x05\x80",
		"one more than what is left":        "\x04\x05\x05\x05",
		"127 and nothing left":              "\x7f",
		"2^35 and one byte left":            "\x80\x80\x80\x80\x80\x01\x05",
		"2^40 and nothing left":             "\x80\x80\x80\x80\x80\x20",
		"a length with a byte more":         "\x81\x00\x05",
		"an empty row with a byte too much": "\x80\x00",
		"as many bytes, fewer elements":     "\x02\x80\x01",
	} {
		if l, e := varint.ReadRow([]byte(b)); e != api.ErrCode || len(l) != 0 {
			t.Errorf("%s: ReadRow(% x) = %v, %v", what, b, l, e)
		}
	}
	for what, b := range wrongBytes() { // as the row's length
		if l, e := varint.ReadRow([]byte(b)); e != api.ErrCode || len(l) != 0 {
			t.Errorf("length %s: ReadRow(% x) = %v, %v", what, b, l, e)
		}
	}
	if l, e := varint.ReadRow(nil); e != api.ErrCode || len(l) != 0 {
		t.Errorf("ReadRow(nil) = %v, %v", l, e)
	}
}

func TestReadRowOfEachBeginning(t *testing.T) { // P1.2
	b, _ := varint.Row(edges())
	for i := range len(b) {
		if l, e := varint.ReadRow(b[:i]); e != api.ErrCode || len(l) != 0 {
			t.Errorf("ReadRow of the first %d bytes = %v, %v", i, l, e)
		}
	}
}

func TestReadRowLeavesItsArgument(t *testing.T) { // P1.2, R4
	b := []byte{2, 7, 0xac, 2}
	l, _ := varint.ReadRow(b)
	again, _ := varint.ReadRow(b)
	l[0] = 1
	if !bytes.Equal(b, []byte{2, 7, 0xac, 2}) || !slices.Equal(again, []int{7, 300}) {
		t.Errorf("ReadRow changed % x, or shares memory: %v", b, again)
	}
}

// TestRowsOfAllShortBytes: of all strings of up to three bytes, just those are read that Row writes.
func TestRowsOfAllShortBytes(t *testing.T) { // P1.2
	for size := range 4 {
		for x := range 1 << (8 * size) {
			b := []byte{byte(x >> 16), byte(x >> 8), byte(x)}[3-size:]
			l, e := varint.ReadRow(b)
			if e != api.OK {
				continue
			}
			if back, e := varint.Row(l); e != api.OK || !bytes.Equal(back, b) {
				t.Fatalf("ReadRow(% x) = %v, but its Row is % x, %v", b, l, back, e)
			}
		}
	}
}

func TestGetBehindPut(t *testing.T) { // P1.3
	var b []byte
	var places []int
	for _, n := range spread() {
		places = append(places, len(b))
		b, _ = varint.Put(b, n)
	}
	for i, n := range spread() {
		behind := len(b)
		if i+1 < len(places) {
			behind = places[i+1]
		}
		m, at, e := varint.Get(b, places[i])
		if m != n || at != behind || e != api.OK {
			t.Errorf("Get at %d = %d, %d, %v; want %d, %d", places[i], m, at, e, n, behind)
		}
	}
}

// TestPutBehindGet: wherever a number is read, Put writes the very bytes that were read.
func TestPutBehindGet(t *testing.T) { // P1.3
	check := func(b []byte, at int) {
		n, behind, e := varint.Get(b, at)
		if e != api.OK {
			return
		}
		if back, e := varint.Put(b[:at], n); e != api.OK || !bytes.Equal(back, b[:behind]) {
			t.Fatalf("Get(% x, %d) = %d, but Put writes % x, %v", b, at, n, back, e)
		}
	}
	for x := range 1 << 16 {
		check([]byte{byte(x >> 8), byte(x)}, 0)
	}
	x := uint32(1)
	for range 100000 {
		b := make([]byte, 12)
		for i := range b {
			x = x*1664525 + 1013904223
			b[i] = byte(x >> 24)
			if x>>8&3 != 0 { // most bytes go on, so that numbers are long
				b[i] |= 0x80
			}
		}
		for at := range b {
			check(b, at)
		}
	}
}

func TestNoNumberBeginsAnother(t *testing.T) { // P1.3
	for _, n := range spread() {
		b, _ := varint.Put(nil, n)
		for i := range len(b) {
			if m, behind, e := varint.Get(b[:i], 0); e != api.ErrCode {
				t.Errorf("the first %d bytes of %d are %d, %d", i, n, m, behind)
			}
		}
		for _, m := range spread() {
			if c, _ := varint.Put(nil, m); n != m && bytes.HasPrefix(c, b) {
				t.Errorf("the bytes of %d begin those of %d", n, m)
			}
		}
	}
}
