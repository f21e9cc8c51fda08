package fields_test

import (
	"bytes"
	"fmt"
	"math"
	"strings"
	"testing"

	"roving/api"
	"roving/fields"
)

// number returns the bytes of a number by division, apart from how the program makes them.
func number(n int) string {
	b := []byte{byte(n % 128)}
	for n /= 128; n > 0; n /= 128 {
		b[len(b)-1] += 128
		b = append(b, byte(n%128))
	}
	return string(b)
}

// text returns the bytes of a text as a field.
func text(s string) string { return number(len(s)) + s }

// letters returns a text of n bytes that are not all the same, and of which some are beyond ASCII, or 0.
func letters(n int) string {
	b := make([]byte, n)
	for i := range b {
		b[i] = byte(i*7 + i/256)
	}
	return string(b)
}

func numbers() []int {
	return []int{0, 1, 5, 127, 128, 300, 1<<14 - 1, 1 << 14, 1 << 20, 1 << 35, api.MaxNumber - 1, api.MaxNumber}
}

func noNumbers() []int {
	return []int{-1, -128, math.MinInt, api.MaxNumber + 1, 2 * api.MaxNumber, 1 << 49, math.MaxInt}
}

// texts returns texts that are fields; their lengths are those at which something changes.
func texts() []string {
	l := []string{"a", "\x00", "\xff\xfe", "grüß"}
	for _, n := range []int{0, 1, 2, 126, 127, 128, 129, 1023, 1024} {
		l = append(l, letters(n))
	}
	return l
}

// writers returns, for each function that writes a field, what it wants to have written and the call of it.
func writers() map[string]func(b []byte) []byte {
	w := map[string]func(b []byte) []byte{
		"\x01": func(b []byte) []byte { return fields.Flag(b, true) },
		"\x00": func(b []byte) []byte { return fields.Flag(b, false) },
	}
	for _, n := range numbers()[2:] { // 0 and 1 have the bytes of flags
		w[number(n)] = func(b []byte) []byte { return first(fields.Number(b, n)) }
	}
	for _, s := range texts() {
		if s != "" { // its only byte is that of 0
			w[text(s)] = func(b []byte) []byte { return first(fields.Text(b, s)) }
		}
	}
	return w
}

// short returns the beginning of a value as text.
func short(x any) string { return fmt.Sprintf("%.60s", fmt.Sprintf("%#v", x)) }

func first(b []byte, e api.Errno) []byte {
	if e != api.OK {
		return []byte(e.Error())
	}
	return b
}

func TestNumberIsPut(t *testing.T) { // P2.1
	for _, n := range numbers() {
		for _, front := range []string{"", "x", "\x80\x01"} {
			b, e := fields.Number([]byte(front), n)
			if e != api.OK || string(b) != front+number(n) {
				t.Errorf("Number(%q, %d) = %q, %v", front, n, b, e)
			}
		}
	}
	for _, n := range noNumbers() {
		if b, e := fields.Number([]byte("x"), n); e != api.ErrArg || len(b) != 0 {
			t.Errorf("Number of %d = %q, %v", n, b, e)
		}
	}
}

func TestTextIsItsLengthAndItsBytes(t *testing.T) { // P2.1
	for _, s := range texts() {
		for _, front := range []string{"", "x", "\x80\x01"} {
			b, e := fields.Text([]byte(front), s)
			if e != api.OK || string(b) != front+text(s) {
				t.Errorf("Text(%q, %d bytes) = %.30q, %v", front, len(s), b, e)
			}
		}
		if n := fields.Size(s); n != len(text(s)) {
			t.Errorf("Size of %d bytes = %d; want %d", len(s), n, len(text(s)))
		}
	}
}

func TestTextThatIsTooLong(t *testing.T) { // P2.1
	for _, n := range []int{1025, 1026, 2048, 1 << 14, 1 << 20} {
		s := letters(n)
		if b, e := fields.Text([]byte("x"), s); e != api.ErrArg || len(b) != 0 {
			t.Errorf("Text of %d bytes = %d bytes, %v", n, len(b), e)
		}
		if size := fields.Size(s); size != 0 {
			t.Errorf("Size of %d bytes = %d", n, size)
		}
	}
}

func TestSizesAtTheEdges(t *testing.T) { // P2.1
	for n, want := range map[int]int{0: 1, 1: 2, 127: 128, 128: 130, 1023: 1025, 1024: 1026, 1025: 0} {
		if size := fields.Size(letters(n)); size != want {
			t.Errorf("Size of %d bytes = %d; want %d", n, size, want)
		}
	}
}

func TestFlagIsOneByte(t *testing.T) { // P2.1
	for _, front := range []string{"", "x", "\x80\x01"} {
		if b := fields.Flag([]byte(front), true); string(b) != front+"\x01" {
			t.Errorf("Flag(%q, true) = %q", front, b)
		}
		if b := fields.Flag([]byte(front), false); string(b) != front+"\x00" {
			t.Errorf("Flag(%q, false) = %q", front, b)
		}
	}
	if b := fields.Flag(nil, true); string(b) != "\x01" {
		t.Errorf("Flag(nil, true) = %q", b)
	}
}

// TestWritersLeaveTheirArgument: neither the bytes that are given nor the capacity behind them change, and no two
// results share memory with them or with each other.
func TestWritersLeaveTheirArgument(t *testing.T) { // P2.1, R4
	for want, write := range writers() {
		whole := bytes.Repeat([]byte{0xee}, 2000)
		for _, size := range []int{0, 3} {
			one, two := write(whole[:size]), write(whole[:size])
			if string(one) != string(whole[:size])+want {
				t.Fatalf("% .30x behind %d bytes = % .30x", want, size, one)
			}
			one = one[:cap(one)]
			for i := range one {
				one[i] = 0x55
			}
			if string(two) != strings.Repeat("\xee", size)+want {
				t.Errorf("two results share memory: % .30x", two)
			}
			if strings.Trim(string(whole), "\xee") != "" {
				t.Fatalf("% .30x behind %d bytes wrote into what it was given, or shares memory", want, size)
			}
		}
	}
}

func TestWritersThatFailLeaveTheirArgument(t *testing.T) { // P2.1, R4
	whole := bytes.Repeat([]byte{0xee}, 2000)
	fields.Number(whole[:3], -1)
	fields.Number(whole[:3], api.MaxNumber+1)
	fields.Text(whole[:3], letters(1025))
	if strings.Trim(string(whole), "\xee") != "" {
		t.Error("a call with an error wrote into what it was given")
	}
}

// reading is a call of a reader: what it returns, as text, number or flag.
type reading func(r *fields.Reader) any

func readNumber(least, most int) reading {
	return func(r *fields.Reader) any { return r.Number(least, most) }
}

func readText(most int) reading {
	return func(r *fields.Reader) any { return r.Text(most) }
}

func readFlag() reading {
	return func(r *fields.Reader) any { return r.Flag() }
}

// right is a field's bytes, and a reading of them that is right.
type right struct {
	b    string
	read reading
	want any
}

func rights() []right {
	l := []right{
		{"\x00", readFlag(), false},
		{"\x01", readFlag(), true},
		{"\x05", readNumber(-7, 5), 5},
		{"\x05", readNumber(math.MinInt, math.MaxInt), 5},
		{"\x00", readNumber(math.MinInt, 0), 0},
		{"\x02ab", readText(math.MaxInt), "ab"},
		{text(letters(1025)), readText(1025), letters(1025)}, // Text is limited by most alone
		{text(letters(1 << 14)), readText(1 << 20), letters(1 << 14)},
	}
	for _, n := range numbers() {
		for _, least := range []int{0, n - 1, n} {
			for _, most := range []int{n, n + 1, api.MaxNumber} {
				l = append(l, right{number(n), readNumber(least, most), n})
			}
		}
	}
	for _, s := range texts() {
		for _, most := range []int{len(s), len(s) + 1, api.MaxLoad} {
			l = append(l, right{text(s), readText(most), s})
		}
	}
	return l
}

// wrong is bytes, and a reading of them that is wrong.
type wrong struct {
	b    string
	read reading
}

// notNumbers returns bytes with which no number begins, whatever is behind them.
func notNumbers() []string {
	return []string{
		"\x80\x00",                                     // a byte more than 0 needs
		"\xac\x82\x00",                                 // a byte more than 300 needs
		"\x80\x80\x80\x80\x80\xa0\x00",                 // a byte more than 2^40 needs
		"\x81\x80\x80\x80\x80\x20",                     // 2^40 + 1
		"\x80\x80\x80\x80\x80\x40",                     // 2^41
		"\x80\x80\x80\x80\x80\x80\x01",                 // 2^42
		"\x85\x80\x80\x80\x80\x80\x80\x80\x80\x80\x01", // 5, and 2^70
		"\xff\xff\xff\xff\xff\xff\xff\xff\xff\xff\xff",
	}
}

// wrongs returns readings that are wrong, whatever is behind their bytes.
func wrongs() []wrong {
	l := []wrong{
		{"\x05", readNumber(6, 9)},
		{"\x05", readNumber(0, 4)},
		{"\x05", readNumber(6, 4)}, // no number is in it
		{"\x05", readNumber(5, 4)},
		{"\x05", readNumber(6, 5)},
		{"\x05", readNumber(math.MaxInt, math.MinInt)},
		{"\x05", readNumber(-9, -1)},
		{"\x00", readNumber(1, 9)},
		{"\x00", readNumber(-9, -1)},
		{number(api.MaxNumber), readNumber(0, api.MaxNumber-1)},
		{number(api.MaxNumber), readNumber(api.MaxNumber+1, math.MaxInt)},
		{"\x02ab", readText(1)},
		{"\x02ab", readText(0)},
		{"\x02ab", readText(-1)},
		{"\x00", readText(-1)},
		{"\x00", readText(math.MinInt)},
		{text(letters(128)), readText(127)},
		{text(letters(1025)), readText(1024)},
		{"\x02", readFlag()},
		{"\x03", readFlag()},
		{"\x80", readFlag()},
		{"\xff", readFlag()},
	}
	for _, b := range notNumbers() {
		l = append(l, wrong{b, readNumber(0, api.MaxNumber)}, wrong{b, readNumber(math.MinInt, math.MaxInt)})
		l = append(l, wrong{b + "aaaaaaaa", readText(math.MaxInt)})
	}
	return l
}

// wrongsAtTheEnd returns readings that are wrong because the bytes end.
func wrongsAtTheEnd() []wrong {
	l := []wrong{
		{"", readNumber(0, api.MaxNumber)},
		{"", readNumber(0, 0)},
		{"", readText(0)},
		{"", readText(9)},
		{"", readFlag()},
		{"\x01", readText(9)},
		{"\x03ab", readText(9)},
		{"\x03ab", readText(3)},
		{"\x03ab", readText(2)},
		{text(letters(1024))[:1025], readText(1024)},
		{number(1<<35) + "ab", readText(math.MaxInt)},
		{number(api.MaxNumber) + "ab", readText(api.MaxNumber)},
	}
	for _, n := range []int{1, 2, 3, 4, 5} {
		b := strings.Repeat("\x80", n)
		l = append(l, wrong{b, readNumber(0, api.MaxNumber)}, wrong{b, readText(math.MaxInt)})
	}
	return l
}

// fronts returns bytes before a field.
func fronts() []string { return []string{"", "\x01", "\x80", "\xff\xff", letters(300)} }

func TestReadingWhatIsRight(t *testing.T) { // P2.2
	for _, x := range rights() {
		for _, front := range fronts() {
			for _, tail := range []string{"", "\x00", "\x80", "\xff\xff\xff\xff\xff\xff\xff", letters(300)} {
				r := fields.New(front + x.b + tail)
				if r.At != 0 || r.Bad || r.B != front+x.b+tail {
					t.Fatalf("New is at %d, %v", r.At, r.Bad)
				}
				r.At = len(front)
				got := x.read(r)
				if got != x.want || r.At != len(front)+len(x.b) || r.Bad || r.B != front+x.b+tail {
					t.Errorf("% .30x behind %d bytes, before %d: %s, want %s; at %d, %v", x.b, len(front), len(tail), short(got), short(x.want), r.At, r.Bad)
				}
				want := api.OK
				if tail != "" {
					want = api.ErrCode
				}
				if e := r.End(); e != want || r.Bad {
					t.Errorf("% .30x before %d bytes: End = %v", x.b, len(tail), e)
				}
			}
		}
	}
}

// isNothing tells whether each call of a reader that is stopped returns nothing and leaves it where it is.
func isNothing(r *fields.Reader) bool {
	before := *r
	for range 2 {
		if r.Number(0, api.MaxNumber) != 0 || r.Number(math.MinInt, math.MaxInt) != 0 || r.Text(math.MaxInt) != "" || r.Flag() || r.End() != api.ErrCode {
			return false
		}
	}
	return *r == before
}

// stopsThere tells whether a reading returns nothing and stops its reader where the field began.
func stopsThere(b string, at int, read reading) bool {
	r := fields.New(b)
	r.At = at
	switch got := read(r); got {
	case 0, "", false:
	default:
		return false
	}
	return *r == fields.Reader{B: b, At: at, Bad: true} && r.End() == api.ErrCode && isNothing(r)
}

func TestReadingWhatIsWrong(t *testing.T) { // P2.2
	for i, x := range wrongs() {
		for _, front := range fronts() {
			// Behind the field stands what could be read, so that only its being stopped keeps a reader from it.
			for _, tail := range []string{"", "\x01", "\x01\x01\x01\x01\x01\x01\x01\x01\x01\x01\x01\x01"} {
				if !stopsThere(front+x.b+tail, len(front), x.read) {
					t.Errorf("%d: % .30x behind %d bytes, before %d", i, x.b, len(front), len(tail))
				}
			}
		}
	}
	for i, x := range wrongsAtTheEnd() {
		for _, front := range fronts() {
			if !stopsThere(front+x.b, len(front), x.read) {
				t.Errorf("at the end, %d: % .30x behind %d bytes", i, x.b, len(front))
			}
		}
	}
}

// TestFlagsOfAllBytes: of all bytes, just 0 and 1 are flags.
func TestFlagsOfAllBytes(t *testing.T) { // P2.2
	for c := range 256 {
		r := fields.New(string([]byte{byte(c), 1}))
		yes := r.Flag()
		if c > 1 {
			if yes || r.At != 0 || !r.Bad {
				t.Errorf("%d is read as a flag: %v", c, *r)
			}
		} else if yes != (c == 1) || r.At != 1 || r.Bad {
			t.Errorf("%d is read as %v: %v", c, yes, *r)
		}
	}
}

// TestReadersInNoPlace: a place that no function gives a reader has no field.
func TestReadersInNoPlace(t *testing.T) { // P2.2, R1
	for _, at := range []int{-1, -7, math.MinInt, 4, 5, 100, math.MaxInt} {
		for i, read := range []reading{readNumber(0, api.MaxNumber), readText(math.MaxInt), readFlag()} {
			if !stopsThere("\x01\x01\x01", at, read) {
				t.Errorf("reading %d at %d", i, at)
			}
		}
		if e := (&fields.Reader{B: "\x01\x01\x01", At: at}).End(); e != api.ErrCode {
			t.Errorf("End at %d = %v", at, e)
		}
	}
}

func TestEnd(t *testing.T) { // P2.2
	for _, x := range []struct {
		r    *fields.Reader
		want api.Errno
	}{
		{fields.New(""), api.OK},
		{fields.New("\x01"), api.ErrCode},
		{&fields.Reader{}, api.OK},
		{&fields.Reader{B: "ab", At: 2}, api.OK},
		{&fields.Reader{B: "ab", At: 1}, api.ErrCode},
		{&fields.Reader{B: "ab", At: 0}, api.ErrCode},
		{&fields.Reader{B: "ab", At: 2, Bad: true}, api.ErrCode},
		{&fields.Reader{B: "", Bad: true}, api.ErrCode},
		{nil, api.ErrCode},
	} {
		for range 2 { // asking changes nothing
			if e := x.r.End(); e != x.want {
				t.Errorf("End of %v = %v; want %v", x.r, e, x.want)
			}
		}
	}
}

func TestWrongStopsTheReader(t *testing.T) { // P2.2
	for _, at := range []int{0, 1, 3} {
		r := fields.New("\x01\x01\x01")
		for range at {
			if r.Number(1, 1) != 1 {
				t.Fatal("it is stopped before Wrong")
			}
		}
		r.Wrong()
		if (*r != fields.Reader{B: "\x01\x01\x01", At: at, Bad: true}) || r.End() != api.ErrCode || !isNothing(r) {
			t.Errorf("Wrong at %d: %v", at, *r)
		}
		r.Wrong()
		if r.At != at || !r.Bad {
			t.Errorf("Wrong twice at %d: %v", at, *r)
		}
	}
}

func TestNilReader(t *testing.T) { // P2.2, R1
	var r *fields.Reader
	r.Wrong()
	if n := r.Number(0, 9); n != 0 {
		t.Errorf("Number = %d", n)
	}
	if n := r.Number(5, 9); n != 0 {
		t.Errorf("Number from 5 = %d", n)
	}
	if s := r.Text(9); s != "" {
		t.Errorf("Text = %q", s)
	}
	if r.Flag() {
		t.Error("Flag = true")
	}
	if e := r.End(); e != api.ErrCode {
		t.Errorf("End = %v", e)
	}
}

// TestReadersAreApart: a reader that is stopped stops no other one of the same bytes.
func TestReadersAreApart(t *testing.T) { // P2.2, R3, R4
	one, two := fields.New("\x01\x05"), fields.New("\x01\x05")
	one.Number(1, 1)
	one.Wrong()
	if two.At != 0 || two.Bad || !two.Flag() || two.Number(5, 5) != 5 || two.End() != api.OK {
		t.Errorf("the other reader is %v", *two)
	}
}

// field is a field of some kind, with how it is written and read.
type field struct {
	write func(b []byte) []byte
	read  reading
	want  any
}

func numberField(n int) field {
	return field{func(b []byte) []byte { return first(fields.Number(b, n)) }, readNumber(0, api.MaxNumber), n}
}

func textField(s string) field {
	return field{func(b []byte) []byte { return first(fields.Text(b, s)) }, readText(api.MaxLoad), s}
}

func flagField(yes bool) field {
	return field{func(b []byte) []byte { return fields.Flag(b, yes) }, readFlag(), yes}
}

// allFields returns fields of each kind, so that each kind stands behind each other kind.
func allFields() []field {
	l := []field{flagField(true), flagField(false), flagField(true)}
	for _, n := range numbers() {
		l = append(l, numberField(n), flagField(n%2 == 1))
	}
	for i, s := range texts() {
		l = append(l, textField(s), numberField(i*i*i*i*i), textField(s), flagField(i%3 == 0))
	}
	return l
}

// rows returns lists of fields: each field alone, all pairs, and all fields together.
func rows() [][]field {
	all := allFields()
	l := [][]field{nil, all}
	for _, x := range all {
		l = append(l, []field{x})
		for _, y := range all {
			l = append(l, []field{x, y})
		}
	}
	return l
}

func write(row []field) string {
	var b []byte
	for _, x := range row {
		b = x.write(b)
	}
	return string(b)
}

// areRead tells whether fields are read from some bytes, with nothing behind them.
func areRead(row []field, b string) bool {
	r := fields.New(b)
	same := true
	for _, x := range row {
		same = x.read(r) == x.want && same
	}
	return r.End() == api.OK && same
}

func TestFieldsAreReadInTheirOrder(t *testing.T) { // P2.3
	for i, row := range rows() {
		b := write(row)
		if !areRead(row, b) {
			t.Errorf("row %d of %d fields: % .50x", i, len(row), b)
		}
		if areRead(row, b+"\x00") {
			t.Errorf("row %d of %d fields is read with a byte behind: % .50x", i, len(row), b)
		}
	}
}

func TestNoShorterBeginningHasTheSameFields(t *testing.T) { // P2.3
	for i, row := range rows() {
		b := write(row)
		step := 1 + len(b)/300
		for size := 0; size < len(b); size += step {
			if areRead(row, b[:size]) {
				t.Errorf("row %d of %d fields is read from its first %d bytes", i, len(row), size)
			}
		}
		if b != "" && areRead(row, b[:len(b)-1]) {
			t.Errorf("row %d of %d fields is read without its last byte", i, len(row))
		}
	}
}

// TestBeginningsOfEachField: no beginning of a field is a field of its kind at all, whatever its value.
func TestBeginningsOfEachField(t *testing.T) { // P2.3
	for i, x := range allFields() {
		b := string(x.write(nil))
		for size := range len(b) {
			r := fields.New(b[:size])
			x.read(r)
			if !r.Bad || r.At != 0 || r.End() != api.ErrCode {
				t.Errorf("field %d: its first %d bytes are read: at %d, %v", i, size, r.At, r.Bad)
			}
		}
	}
}

// TestLongBytes: that much is behind a field makes its reading no slower; otherwise this takes minutes.
func TestLongBytes(t *testing.T) { // P2.2
	const count = 1 << 20
	r := fields.New(strings.Repeat("\x05\x01a\x01", count))
	for range count {
		if r.Number(5, 5) != 5 || r.Text(math.MaxInt) != "a" || !r.Flag() {
			t.Fatalf("stopped at %d", r.At)
		}
	}
	if r.End() != api.OK {
		t.Errorf("End at %d", r.At)
	}
}
