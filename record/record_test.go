package record_test

import (
	"fmt"
	"math"
	"math/rand"
	"reflect"
	"slices"
	"strings"
	"testing"

	"roving/api"
	"roving/fields"
	"roving/record"
)

// number returns the bytes of a number by division, apart from how the program makes them.
func number(n int) string {
	b := []byte{byte(n % 128)}
	for n /= 128; n > 0; n /= 128 {
		b[len(b)-1] += 128
		b = append(b, byte(n%128))
	}
	return string(b)
}

func text(s string) string { return number(len(s)) + s }

func flag(yes bool) string {
	if yes {
		return "\x01"
	}
	return "\x00"
}

// written returns the bytes of a batch by the document's words, whether or not it is valid.
func written(b api.Batch) string {
	s := number(b.Pid) + number(b.Epoch) + number(b.Seq) + flag(b.Txn) + number(len(b.Records))
	for _, x := range b.Records {
		s += text(x.Key) + text(x.Value)
	}
	return s
}

// valid tells by the document's words whether a batch is valid.
func valid(b api.Batch) bool {
	for _, x := range b.Records {
		if len(x.Key) > 16 || len(x.Value) > 16 {
			return false
		}
	}
	switch {
	case b.Pid < 1, b.Pid > 8, b.Epoch < 0, b.Epoch > 100, b.Seq < 0:
		return false
	case len(b.Records) == 0, len(b.Records) > 4:
		return false
	}
	return uint64(b.Seq)+uint64(len(b.Records)) <= 1<<20 // of what is not below 0, without an overflow
}

// taker reads fields by the document's words, apart from how the program reads them.
type taker struct {
	b   string
	at  int
	bad bool
}

func (k *taker) number(least, most int) int {
	n, size := 0, 0
	for {
		if k.bad || k.at+size >= len(k.b) || size > 8 {
			k.bad = true
			return 0
		}
		c := int(k.b[k.at+size])
		n += c % 128 << (7 * size)
		size++
		if c >= 128 {
			continue
		}
		if c == 0 && size > 1 || n > 1<<40 || n < least || n > most {
			k.bad = true
			return 0
		}
		k.at += size
		return n
	}
}

func (k *taker) text(most int) string {
	begin := k.at
	n := k.number(0, most)
	if k.bad || n > len(k.b)-k.at {
		k.at, k.bad = begin, true
		return ""
	}
	k.at += n
	return k.b[k.at-n : k.at]
}

// take returns what Take returns at a place, and the reader then.
func take(s string, at int) (api.Batch, fields.Reader) {
	k := &taker{b: s, at: at}
	var b api.Batch
	b.Pid = k.number(1, 8)
	b.Epoch = k.number(0, 100)
	b.Seq = k.number(0, 1<<20)
	b.Txn = k.number(0, 1) == 1 // a flag is a number of one byte
	for n := k.number(1, 4); n > 0; n-- {
		key := k.text(16)
		b.Records = append(b.Records, api.Record{Key: key, Value: k.text(16)})
	}
	if k.bad || !valid(b) {
		return api.Batch{}, fields.Reader{B: s, At: k.at, Bad: true}
	}
	return b, fields.Reader{B: s, At: k.at}
}

// equal tells whether two batches are equal, apart from how the program tells it; nil and empty mean the same.
func equal(a, b api.Batch) bool {
	a.Records = append([]api.Record{}, a.Records...)
	b.Records = append([]api.Record{}, b.Records...)
	return reflect.DeepEqual(a, b)
}

func isEmpty(b api.Batch) bool { return equal(b, api.Batch{}) }

// short returns the beginning of a value as text.
func short(x any) string { return fmt.Sprintf("%.200s", fmt.Sprintf("%+q", x)) }

// letters returns a text of n bytes that are not all the same, and of which some are beyond ASCII, or 0.
func letters(n int) string {
	b := make([]byte, n)
	for i := range b {
		b[i] = byte(i*37 + n)
	}
	return string(b)
}

func kv(key, value string) api.Record { return api.Record{Key: key, Value: value} }

// empties returns n records without a key or a value.
func empties(n int) []api.Record { return make([]api.Record, n) }

// base returns a valid batch in which each field is another value.
func base() api.Batch {
	return api.Batch{Pid: 3, Epoch: 7, Seq: 300, Txn: true, Records: []api.Record{kv("k", "vv"), kv("", "www"), kv("kkkk", "")}}
}

// with returns the base with a change.
func with(change func(b *api.Batch)) api.Batch {
	b := base()
	change(&b)
	return b
}

// recordLists returns lists of records, up to those that are too many, and with ones that are too long at each place.
func recordLists() [][]api.Record {
	l := [][]api.Record{
		nil, {}, {kv("a", "b")}, {kv("\x00", "\xff\xfe")}, {kv("grüß", "")}, {kv("", "a"), kv("a", "")},
		{kv("ab", ""), kv("", "ab"), kv("a", "b")},
	}
	for n := 1; n <= 6; n++ {
		l = append(l, empties(n))
		for _, size := range []int{15, 16, 17, 18, 300} {
			for at := range n {
				key, value := empties(n), empties(n)
				key[at].Key, value[at].Value = letters(size), letters(size)
				l = append(l, key, value)
			}
			l = append(l, slices.Repeat([]api.Record{kv(letters(size), letters(size))}, n))
		}
	}
	return append(l, empties(100), empties(1<<16))
}

// batches returns many batches, of each bound and of one past it; some are valid.
func batches() []api.Batch {
	var l []api.Batch
	seqs := []int{math.MinInt, math.MinInt + 3, -300, -4, -1, 0, 1, 127, 128, 300, 1<<14 - 1, 1 << 14, 1 << 40}
	for d := range 10 {
		seqs = append(seqs, 1<<20-7+d, math.MaxInt-d)
	}
	for _, records := range recordLists() {
		for _, seq := range seqs {
			l = append(l, api.Batch{Pid: 1, Seq: seq, Records: records}, api.Batch{Pid: 8, Epoch: 100, Seq: seq, Txn: true, Records: records})
		}
		for _, pid := range []int{math.MinInt, -8, -1, 0, 1, 2, 7, 8, 9, 128, 257, math.MaxInt} {
			for _, epoch := range []int{math.MinInt, -100, -1, 0, 1, 99, 100, 101, 128, 256, math.MaxInt} {
				l = append(l, api.Batch{Pid: pid, Epoch: epoch, Seq: 5, Txn: epoch%2 == 0, Records: records})
			}
		}
	}
	return l
}

// valids returns the valid ones of these batches.
func valids() []api.Batch {
	return slices.DeleteFunc(batches(), func(b api.Batch) bool { return !valid(b) })
}

func TestMayAtEachBound(t *testing.T) { // P6.1
	for i, x := range []struct {
		b    api.Batch
		want bool
	}{
		{base(), true},
		{api.Batch{}, false},
		{api.Batch{Pid: 1, Records: empties(1)}, true},
		{with(func(b *api.Batch) { b.Txn = false }), true},
		{with(func(b *api.Batch) { b.Pid = -1 }), false},
		{with(func(b *api.Batch) { b.Pid = 0 }), false},
		{with(func(b *api.Batch) { b.Pid = 1 }), true},
		{with(func(b *api.Batch) { b.Pid = 8 }), true},
		{with(func(b *api.Batch) { b.Pid = 9 }), false},
		{with(func(b *api.Batch) { b.Epoch = -1 }), false},
		{with(func(b *api.Batch) { b.Epoch = 0 }), true},
		{with(func(b *api.Batch) { b.Epoch = 100 }), true},
		{with(func(b *api.Batch) { b.Epoch = 101 }), false},
		{with(func(b *api.Batch) { b.Seq = -1 }), false},
		{with(func(b *api.Batch) { b.Seq = 0 }), true},
		{with(func(b *api.Batch) { b.Seq = 1<<20 - 3 }), true},
		{with(func(b *api.Batch) { b.Seq = 1<<20 - 2 }), false},
		{with(func(b *api.Batch) { b.Seq = 1 << 20 }), false},
		{with(func(b *api.Batch) { b.Seq = math.MaxInt }), false},
		{with(func(b *api.Batch) { b.Seq = math.MaxInt - 2 }), false},
		{with(func(b *api.Batch) { b.Seq = math.MinInt }), false},
		{api.Batch{Pid: 1, Seq: 1<<20 - 1, Records: empties(1)}, true},
		{api.Batch{Pid: 1, Seq: 1 << 20, Records: empties(1)}, false},
		{api.Batch{Pid: 1, Seq: 1<<20 - 4, Records: empties(4)}, true},
		{api.Batch{Pid: 1, Seq: 1<<20 - 3, Records: empties(4)}, false},
		{with(func(b *api.Batch) { b.Records = nil }), false},
		{with(func(b *api.Batch) { b.Records = []api.Record{} }), false},
		{with(func(b *api.Batch) { b.Records = empties(1) }), true},
		{with(func(b *api.Batch) { b.Records = empties(4) }), true},
		{with(func(b *api.Batch) { b.Records = empties(5) }), false},
		{with(func(b *api.Batch) { b.Records[0].Key = letters(16) }), true},
		{with(func(b *api.Batch) { b.Records[0].Key = letters(17) }), false},
		{with(func(b *api.Batch) { b.Records[0].Value = letters(16) }), true},
		{with(func(b *api.Batch) { b.Records[0].Value = letters(17) }), false},
		{with(func(b *api.Batch) { b.Records[2].Key = letters(16) }), true},
		{with(func(b *api.Batch) { b.Records[2].Key = letters(17) }), false},
		{with(func(b *api.Batch) { b.Records[2].Value = letters(16) }), true},
		{with(func(b *api.Batch) { b.Records[2].Value = letters(17) }), false},
	} {
		if got := record.May(x.b); got != x.want {
			t.Errorf("%d: May(%s) = %v", i, short(x.b), got)
		}
	}
}

func TestMayOfManyBatches(t *testing.T) { // P6.1
	count := 0
	for _, b := range batches() {
		if got := record.May(b); got != valid(b) {
			t.Errorf("May(%s) = %v", short(b), got)
		}
		if valid(b) {
			count++
		}
	}
	if count < 100 {
		t.Errorf("%d of the batches are valid", count)
	}
}

// apart returns batches no two of which are equal: the base, and others that differ from it in one field alone.
func apart() []api.Batch {
	l := []api.Batch{base(), {}, {Txn: true}, {Pid: 1}, {Epoch: 1}, {Seq: 1}, {Records: empties(1)}, {Records: empties(2)}}
	for _, n := range []int{math.MinInt, -1, 0, 4, 1 << 32, math.MaxInt} {
		l = append(l,
			with(func(b *api.Batch) { b.Pid = n }),
			with(func(b *api.Batch) { b.Epoch = n }),
			with(func(b *api.Batch) { b.Seq = n }))
	}
	l = append(l,
		with(func(b *api.Batch) { b.Txn = false }),
		with(func(b *api.Batch) { b.Records = nil }),
		with(func(b *api.Batch) { b.Records = b.Records[:1] }),
		with(func(b *api.Batch) { b.Records = b.Records[1:] }),
		with(func(b *api.Batch) { b.Records = b.Records[:2] }),
		with(func(b *api.Batch) { b.Records = append(b.Records, api.Record{}) }),
		with(func(b *api.Batch) { b.Records = append([]api.Record{{}}, b.Records...) }),
		with(func(b *api.Batch) { slices.Reverse(b.Records) }),
		with(func(b *api.Batch) { b.Records[0] = kv("kv", "v") }), // the same bytes in all
		with(func(b *api.Batch) { b.Records[0] = kv("vv", "k") }),
		with(func(b *api.Batch) { b.Records[0] = kv("", "kvv") }))
	for at := range 3 {
		for _, s := range []string{"x", "\x00", letters(16), letters(17)} {
			l = append(l,
				with(func(b *api.Batch) { b.Records[at].Key = s }),
				with(func(b *api.Batch) { b.Records[at].Value = s }))
		}
	}
	return l
}

func TestSame(t *testing.T) { // P6.1
	l := apart()
	for i, a := range l {
		for j, b := range l {
			b.Records = slices.Clone(b.Records)
			if got := record.Same(a, b); got != (i == j) {
				t.Errorf("Same(%s, %s) = %v", short(a), short(b), got)
			}
		}
	}
	if a := (api.Batch{Pid: 1, Records: []api.Record{}}); !record.Same(a, api.Batch{Pid: 1}) || !record.Same(api.Batch{Pid: 1}, a) {
		t.Error("a nil list and an empty one are apart")
	}
}

func TestBehind(t *testing.T) { // P6.1
	for i, x := range []struct {
		seq, count, want int
	}{
		{0, 1, 1}, {300, 2, 302}, {1<<20 - 4, 4, 1 << 20}, {0, 0, 0}, {7, 0, 7}, {1 << 20, 5, 1<<20 + 5}, {9, 1 << 16, 1<<16 + 9},
		{-1, 0, -1}, {-1, 1, 0}, {-3, 2, -1}, {math.MinInt, 0, math.MinInt}, {math.MinInt, 3, math.MinInt + 3},
		{math.MaxInt, 0, math.MaxInt}, {math.MaxInt - 2, 2, math.MaxInt}, {math.MaxInt, 1, math.MinInt}, {math.MaxInt - 1, 4, math.MinInt + 2},
	} {
		for _, b := range []api.Batch{{Seq: x.seq, Records: empties(x.count)}, {Pid: -9, Epoch: 999, Txn: true, Seq: x.seq, Records: slices.Repeat([]api.Record{kv(letters(17), "")}, x.count)}} {
			if got := record.Behind(b); got != x.want {
				t.Errorf("%d: Behind of %d records from %d = %d; want %d", i, x.count, x.seq, got, x.want)
			}
		}
	}
}

// wantRows holds what Rows returns to the document's words.
func wantRows(t *testing.T, b api.Batch, offset int) {
	t.Helper()
	l := record.Rows(b, offset)
	if len(l) != len(b.Records) {
		t.Fatalf("Rows(%s, %d) are %d", short(b), offset, len(l))
	}
	seq, at := b.Seq, offset
	for i, x := range b.Records {
		if want := (api.Row{Offset: at, Pid: b.Pid, Seq: seq, Key: x.Key, Value: x.Value}); l[i] != want {
			t.Fatalf("Rows(%s, %d)[%d] = %s; want %s", short(b), offset, i, short(l[i]), short(want))
		}
		seq++
		if offset != -1 {
			at++
		}
	}
}

func TestRows(t *testing.T) { // P6.1
	for _, b := range append(apart(), batches()[:6000]...) {
		for _, offset := range []int{math.MinInt, -1 << 20, -5, -3, -2, -1, 0, 1, 7, 1<<20 - 1, 1 << 20, math.MaxInt - 2, math.MaxInt - 1, math.MaxInt} {
			wantRows(t, b, offset)
		}
	}
	wantRows(t, api.Batch{Pid: 1, Records: slices.Repeat([]api.Record{kv("a", "b")}, 1<<16)}, 1<<16)
}

func TestRowsOfTheBase(t *testing.T) { // P6.1
	for offset, want := range map[int][3]int{
		-1: {-1, -1, -1}, 0: {0, 1, 2}, 7: {7, 8, 9}, -2: {-2, -1, 0}, -3: {-3, -2, -1}, -9: {-9, -8, -7},
		1<<20 - 1: {1<<20 - 1, 1 << 20, 1<<20 + 1}, math.MaxInt - 1: {math.MaxInt - 1, math.MaxInt, math.MinInt},
	} {
		l := []api.Row{
			{Offset: want[0], Pid: 3, Seq: 300, Key: "k", Value: "vv"},
			{Offset: want[1], Pid: 3, Seq: 301, Value: "www"},
			{Offset: want[2], Pid: 3, Seq: 302, Key: "kkkk"},
		}
		if got := record.Rows(base(), offset); !slices.Equal(got, l) {
			t.Errorf("Rows from %d = %s", offset, short(got))
		}
	}
	wrapped := record.Rows(with(func(b *api.Batch) { b.Pid, b.Seq = math.MinInt, math.MaxInt-1 }), 0)
	for i, seq := range []int{math.MaxInt - 1, math.MaxInt, math.MinInt} {
		if wrapped[i].Seq != seq || wrapped[i].Pid != math.MinInt || wrapped[i].Offset != i {
			t.Errorf("row %d = %s", i, short(wrapped[i]))
		}
	}
	for _, b := range []api.Batch{{}, {Pid: 1, Seq: 5, Records: []api.Record{}}} {
		for _, offset := range []int{-1, 0, 5} {
			if l := record.Rows(b, offset); len(l) != 0 {
				t.Errorf("Rows of no records = %v", l)
			}
		}
	}
}

func TestBytesOfTheExamples(t *testing.T) { // P6.2
	for want, b := range map[string]api.Batch{
		"\x01\x00\x02\x00\x01\x01a\x01b": {Pid: 1, Seq: 2, Records: []api.Record{kv("a", "b")}},
		"\x01\x00\x00\x00\x01\x00\x00":   {Pid: 1, Records: empties(1)},
		"\x08\x64\xfc\xff\x3f\x01\x04" + text("") + "\x00\x00\x00\x00\x00\x00" + text("é"): {Pid: 8, Epoch: 100, Seq: 1<<20 - 4, Txn: true, Records: []api.Record{{}, {}, {}, kv("", "é")}},
		"\x03\x07\xac\x02\x01\x03\x01k\x02vv\x00\x03www\x04kkkk\x00":                       base(),
	} {
		if s, e := record.Bytes(b); e != api.OK || s != want {
			t.Errorf("Bytes(%s) = % x, %v; want % x", short(b), s, e, want)
		}
		if got, e := record.Read(want); e != api.OK || !equal(got, b) {
			t.Errorf("Read(% x) = %s, %v", want, short(got), e)
		}
	}
}

func TestBytesOfManyBatches(t *testing.T) { // P6.2
	for _, b := range batches() {
		s, e := record.Bytes(b)
		switch {
		case !valid(b):
			if s != "" || e != api.ErrArg {
				t.Errorf("Bytes(%s) = % x, %v", short(b), s, e)
			}
		case s != written(b) || e != api.OK:
			t.Errorf("Bytes(%s) = % x, %v", short(b), s, e)
		}
	}
}

// wantRead holds what Read and Take return of a string to what the reference reads, wherever the string stands.
func wantRead(t *testing.T, s string) {
	t.Helper()
	want, then := take(s, 0)
	b, e := record.Read(s)
	switch {
	case then.Bad || then.At != len(s):
		if e != api.ErrCode || !isEmpty(b) {
			t.Fatalf("Read(% x) = %s, %v", s, short(b), e)
		}
	case e != api.OK || !equal(b, want):
		t.Fatalf("Read(% x) = %s, %v; want %s", s, short(b), e, short(want))
	}
	for _, front := range []string{"", "\x01", "\x80\x80"} {
		r := fields.New(front + s)
		r.At = len(front)
		want, then := take(front+s, len(front))
		if b := record.Take(r); !equal(b, want) || *r != then {
			t.Fatalf("Take behind %d bytes, at % x = %s, %v at %d; want %s, %v at %d", len(front), s, short(b), r.Bad, r.At, short(want), then.Bad, then.At)
		}
	}
}

// some returns valid batches of different lengths.
func some() []api.Batch {
	return []api.Batch{
		base(),
		{Pid: 1, Records: empties(1)},
		{Pid: 8, Epoch: 100, Seq: 1<<20 - 4, Txn: true, Records: empties(4)},
		{Pid: 2, Epoch: 1, Seq: 127, Records: []api.Record{kv("\x01", "\x00"), kv(letters(16), letters(16))}},
		{Pid: 5, Seq: 1 << 14, Records: slices.Repeat([]api.Record{kv(letters(16), letters(16))}, 4)},
		{Pid: 1, Seq: 1<<20 - 1, Txn: true, Records: []api.Record{kv("a", "b")}},
	}
}

func TestReadOfBytes(t *testing.T) { // P6.2
	for _, b := range valids() {
		got, e := record.Read(written(b))
		if e != api.OK || !equal(got, b) {
			t.Errorf("Read of the bytes of %s = %s, %v", short(b), short(got), e)
		}
	}
}

func TestReadOfWhatIsNotValid(t *testing.T) { // P6.2
	for _, b := range batches() {
		if b.Pid < 0 || b.Epoch < 0 || b.Seq < 0 || valid(b) || len(b.Records) > 6 {
			continue // what is below 0 has no bytes
		}
		wantRead(t, written(b))
		if got, e := record.Read(written(b)); e != api.ErrCode || !isEmpty(got) {
			t.Errorf("Read of what would be the bytes of %s = %s, %v", short(b), short(got), e)
		}
	}
}

func TestReadOfEachBeginning(t *testing.T) { // P6.2
	for _, b := range some() {
		s := written(b)
		for size := range len(s) {
			wantRead(t, s[:size])
			if got, e := record.Read(s[:size]); e != api.ErrCode || !isEmpty(got) {
				t.Errorf("Read of the first %d bytes of %s = %s, %v", size, short(b), short(got), e)
			}
		}
	}
	if b, e := record.Read(""); e != api.ErrCode || !isEmpty(b) {
		t.Errorf("Read of no bytes = %s, %v", short(b), e)
	}
}

func TestReadWithMoreBehind(t *testing.T) { // P6.2
	for _, b := range some() {
		s := written(b)
		for c := range 256 {
			more := s + string([]byte{byte(c)})
			if got, e := record.Read(more); e != api.ErrCode || !isEmpty(got) {
				t.Errorf("Read with a byte %x more = %s, %v", c, short(got), e)
			}
			wantRead(t, more)
		}
		for _, more := range []string{s, "\x00\x00", "\x80\x80\x80\x80\x80\x80\x80", strings.Repeat("\x00", 1<<20)} {
			if got, e := record.Read(s + more); e != api.ErrCode || !isEmpty(got) {
				t.Errorf("Read with %d bytes more = %s, %v", len(more), short(got), e)
			}
		}
	}
}

// TestReadOfChangedBytes: each byte is changed to each other one, taken away, or doubled; one is put before it.
func TestReadOfChangedBytes(t *testing.T) { // P6.2
	for _, b := range some() {
		s := written(b)
		for at := range len(s) {
			for c := range 256 {
				changed := s[:at] + string([]byte{byte(c)}) + s[at+1:]
				wantRead(t, changed)
				got, e := record.Read(changed)
				if back, _ := record.Bytes(got); e == api.OK && back != changed || changed != s && equal(got, b) {
					t.Fatalf("Read of % x = %s", changed, short(got))
				}
			}
			wantRead(t, s[:at]+s[at+1:])
			wantRead(t, s[:at+1]+s[at:])
			for _, c := range []string{"\x00", "\x01", "\x80", "\xff"} {
				wantRead(t, s[:at]+c+s[at:])
			}
		}
	}
}

// TestReadOfLongNumbers: each number of a batch is written in more bytes than it needs.
func TestReadOfLongNumbers(t *testing.T) { // P6.2
	rest := "\x01a\x01b"
	for i, parts := range [][2]string{
		{"\x83\x00", "\x07\x02\x01\x01" + rest}, {"\x03\x87\x00", "\x02\x01\x01" + rest}, {"\x03\x07\x82\x00", "\x01\x01" + rest},
		{"\x03\x07\x02\x81\x00", "\x01" + rest}, {"\x03\x07\x02\x80\x00", "\x01" + rest}, {"\x03\x07\x02\x01\x81\x00", rest},
		{"\x03\x07\x02\x01\x01\x81\x00", "a\x01b"}, {"\x03\x07\x02\x01\x01\x01a\x81\x00", "b"}, {"\x03\x07\x80\x00", "\x01\x01" + rest},
		{"\x03\x80\x00", "\x02\x01\x01" + rest}, {"\x03\x07\x80\x80\x00", "\x01\x01" + rest}, {"\x03\x07\xac\x82\x00", "\x01\x01" + rest},
		{"\x03\x07\x82\x80\x80\x80\x80\x80\x80\x80\x80\x02", "\x01\x01" + rest}, // 2, and 2^64, which would be shifted out
		{"\x83\x80\x80\x80\x80\x80\x80\x80\x80\x02", "\x07\x02\x01\x01" + rest},
	} {
		s := parts[0] + parts[1]
		wantRead(t, s)
		if b, e := record.Read(s); e != api.ErrCode || !isEmpty(b) {
			t.Errorf("%d: Read(% x) = %s, %v", i, s, short(b), e)
		}
	}
}

// TestReadOfAllShortStrings: all strings of up to eight bytes of some that make batches.
func TestReadOfAllShortStrings(t *testing.T) { // P6.2, P6.3
	alphabet := "\x00\x01\x02\x08\x80"
	count := 0
	var all func(s string, left int)
	all = func(s string, left int) {
		want, then := take(s, 0)
		b, e := record.Read(s)
		if whole := !then.Bad && then.At == len(s); whole != (e == api.OK) || whole && !equal(b, want) {
			t.Fatalf("Read(% x) = %s, %v", s, short(b), e)
		}
		if e == api.OK {
			count++
			if back, e := record.Bytes(b); e != api.OK || back != s {
				t.Fatalf("Read(% x) = %s, but its Bytes are % x, %v", s, short(b), back, e)
			}
		}
		if left == 0 {
			return
		}
		for i := range len(alphabet) {
			all(s+alphabet[i:i+1], left-1)
		}
	}
	all("", 8)
	if count < 1000 {
		t.Errorf("%d strings are batches", count)
	}
}

// TestTakeAmongOtherFields: what stands before a batch and behind it is read as if the batch were a field.
func TestTakeAmongOtherFields(t *testing.T) { // P6.2
	for _, b := range valids() {
		s := written(b)
		r := fields.New("\x05" + s + s + "\x02xy\x01")
		first := r.Number(0, 9)
		one, two := record.Take(r), record.Take(r)
		if first != 5 || !equal(one, b) || !equal(two, b) || r.At != 1+2*len(s) || r.Bad {
			t.Fatalf("two of %s: %s, %s, at %d, %v", short(b), short(one), short(two), r.At, r.Bad)
		}
		if tail, yes := r.Text(16), r.Flag(); tail != "xy" || !yes || r.End() != api.OK {
			t.Errorf("behind %s: %q, %v, %v", short(b), tail, yes, r.End())
		}
	}
}

// none is bytes with which no valid batch begins, and where reading them stops.
type none struct {
	what, b string
	at      int
}

func nones() []none {
	l := []none{
		{"nothing", "", 0},
		{"Pid 0", "\x00\x00\x00\x00\x01\x00\x00", 0},
		{"Pid 9", "\x09\x00\x00\x00\x01\x00\x00", 0},
		{"Pid 1 in two bytes", "\x81\x00\x00\x00\x00\x01\x00\x00", 0},
		{"Epoch 101", "\x01\x65\x00\x00\x01\x00\x00", 1},
		{"Epoch 128", "\x01\x80\x01\x00\x00\x01\x00\x00", 1},
		{"a Seq that breaks off", "\x01\x00\x80", 2},
		{"Seq 2^20 + 1", "\x01\x00\x81\x80\x40\x00\x01\x00\x00", 2},
		{"Seq 2^40", "\x01\x00\x80\x80\x80\x80\x80\x20\x00\x01\x00\x00", 2},
		{"a flag of 2", "\x01\x00\x00\x02\x01\x00\x00", 3},
		{"a flag of 255", "\x01\x00\xac\x02\xff\x01\x00\x00", 4},
		{"no records", "\x01\x00\x00\x00\x00\x00\x00", 4},
		{"5 records", "\x01\x00\x00\x00\x05" + strings.Repeat("\x00", 10), 4},
		{"2^40 records", "\x01\x00\x00\x00\x80\x80\x80\x80\x80\x20" + strings.Repeat("\x00", 10), 4},
		{"a Key of 17 bytes", "\x01\x00\x00\x00\x01" + text(letters(17)) + "\x00", 5},
		{"a Value of 17 bytes", "\x01\x00\x00\x00\x01\x00" + text(letters(17)), 6},
		{"a last Key of 17 bytes", "\x01\x00\x00\x00\x02\x01a\x01b" + text(letters(17)) + "\x00", 9},
		{"a last Value of 17 bytes", "\x01\x00\x00\x00\x02\x01a\x01b\x01c" + text(letters(17)), 11},
		{"a Key that breaks off", "\x01\x00\x00\x00\x01\x02a", 5},
		{"a Value that breaks off", "\x01\x00\x00\x00\x01\x01a\x10bcd", 7},
		{"a record too few", "\x01\x00\x00\x00\x02\x01a\x01b", 9},
		{"no Value", "\x01\x00\x00\x00\x01\x01a", 7},
	}
	// Each field is right; only the last sequence is too great.
	for n := 1; n <= 4; n++ {
		for seq := 1<<20 - n + 1; seq <= 1<<20; seq++ {
			s := written(api.Batch{Pid: 1, Seq: seq, Records: empties(n)})
			l = append(l, none{fmt.Sprintf("%d records from %d", n, seq), s, len(s)})
		}
	}
	return l
}

// isStopped tells whether a reader stays as it is, whatever is read.
func isStopped(r *fields.Reader) bool {
	before := *r
	b := record.Take(r)
	return r.Bad && isEmpty(b) && r.Number(0, api.MaxNumber) == 0 && r.Text(99) == "" && !r.Flag() && r.End() == api.ErrCode && *r == before
}

func TestTakeWhereThereIsNone(t *testing.T) { // P6.2
	good := "\x01\x00\x00\x00\x01\x00\x00"
	for _, x := range nones() {
		for _, front := range []string{"", "\x01", "\x80\x80", good} {
			tails := []string{""}
			if x.at < len(x.b) && !strings.Contains(x.what, "breaks off") {
				tails = append(tails, "\x00", good, strings.Repeat("\x01", 99))
			}
			for _, tail := range tails {
				r := fields.New(front + x.b + tail)
				r.At = len(front)
				b := record.Take(r)
				if !isEmpty(b) || (*r != fields.Reader{B: front + x.b + tail, At: len(front) + x.at, Bad: true}) {
					t.Errorf("%s, behind %d bytes: %s, %v at %d; want %d", x.what, len(front), short(b), r.Bad, r.At-len(front), x.at)
				}
				if !isStopped(r) {
					t.Errorf("%s: the reader goes on", x.what)
				}
			}
		}
		if b, e := record.Read(x.b); e != api.ErrCode || !isEmpty(b) {
			t.Errorf("%s: Read = %s, %v", x.what, short(b), e)
		}
	}
}

func TestTakeOfAReaderThatIsStopped(t *testing.T) { // P6.2
	s := written(base())
	for _, r := range []fields.Reader{
		{B: s, Bad: true}, {B: "\x05" + s, At: 1, Bad: true}, {Bad: true}, {B: s, At: len(s), Bad: true},
		{B: s, At: 1, Bad: true}, {B: s, At: -1, Bad: true}, {B: s, At: math.MaxInt, Bad: true},
	} {
		was := r
		for range 2 {
			if b := record.Take(&r); !isEmpty(b) || r != was {
				t.Errorf("Take at %d of a reader that is stopped = %s; the reader is %s", was.At, short(b), short(r))
			}
		}
	}
	r := fields.New("\x05" + s)
	r.Number(6, 9)
	if b := record.Take(r); !isEmpty(b) || r.At != 0 || !r.Bad {
		t.Errorf("Take behind a number that is wrong = %s, at %d", short(b), r.At)
	}
}

// TestTakeInNoPlace: a place that no function gives a reader has no batch.
func TestTakeInNoPlace(t *testing.T) { // P6.2, R1
	s := written(base())
	for _, at := range []int{-1, -7, math.MinInt, len(s), len(s) + 1, 1 << 30, math.MaxInt} {
		r := &fields.Reader{B: s, At: at}
		if b := record.Take(r); !isEmpty(b) || (*r != fields.Reader{B: s, At: at, Bad: true}) {
			t.Errorf("Take at %d = %s; the reader is at %d, %v", at, short(b), r.At, r.Bad)
		}
	}
}

func TestTakeOfNoReader(t *testing.T) { // R1
	for range 2 {
		if b := record.Take(nil); !isEmpty(b) {
			t.Errorf("Take(nil) = %s", short(b))
		}
	}
}

// TestReadersAreApart: a reader that is stopped, or has moved, leaves another one of the same bytes.
func TestReadersAreApart(t *testing.T) { // R3, R4
	s := written(base()) + "\x00"
	one, two := fields.New(s), fields.New(s)
	record.Take(one)
	record.Take(one)
	if !one.Bad || (*two != fields.Reader{B: s}) || !equal(record.Take(two), base()) || two.Bad {
		t.Errorf("the readers are %s and %s", short(*one), short(*two))
	}
}

func TestReadOfBytesAndBytesOfRead(t *testing.T) { // P6.3
	most := 0
	for _, b := range valids() {
		s, e := record.Bytes(b)
		if e != api.OK || len(s) > 160 {
			t.Fatalf("Bytes(%s) has %d bytes, %v", short(b), len(s), e)
		}
		most = max(most, len(s))
		back, e := record.Read(s)
		if e != api.OK || !equal(back, b) || !record.Same(back, b) {
			t.Fatalf("Read(Bytes(%s)) = %s, %v", short(b), short(back), e)
		}
		again, e := record.Bytes(back)
		if e != api.OK || again != s {
			t.Fatalf("Bytes(Read(% x)) = % x, %v", s, again, e)
		}
	}
	if most != 143 { // two bytes, three of a sequence, two, and eight texts of 17
		t.Errorf("the longest batch has %d bytes", most)
	}
}

// randomBatch returns a batch that is valid.
func randomBatch(x *rand.Rand) api.Batch {
	b := api.Batch{Pid: 1 + x.Intn(8), Epoch: x.Intn(101), Seq: x.Intn(1 << x.Intn(20)), Txn: x.Intn(2) == 0}
	for range 1 + x.Intn(4) {
		b.Records = append(b.Records, kv(letters(x.Intn(17)), letters(x.Intn(17))))
	}
	return b
}

// TestOfRandomBatches: batches by chance, and what some changed bytes make of them.
func TestOfRandomBatches(t *testing.T) { // P6.2, P6.3
	x := rand.New(rand.NewSource(6))
	for range 20000 {
		b := randomBatch(x)
		s, e := record.Bytes(b)
		if e != api.OK || s != written(b) {
			t.Fatalf("Bytes(%s) = % x, %v", short(b), s, e)
		}
		wantRead(t, s)
		changed := []byte(s)
		for range 1 + x.Intn(3) {
			changed[x.Intn(len(changed))] = byte(x.Intn(256) >> x.Intn(8))
		}
		wantRead(t, string(changed))
		if back, e := record.Read(string(changed)); e == api.OK {
			if again, e := record.Bytes(back); e != api.OK || again != string(changed) {
				t.Fatalf("Bytes(Read(% x)) = % x, %v", changed, again, e)
			}
		}
	}
}

// TestArgumentsStay: no call changes the records that it is given, or what is behind them.
func TestArgumentsStay(t *testing.T) { // R4
	for n := range 7 {
		whole := make([]api.Record, 9)
		for i := range whole {
			whole[i] = kv(letters(i), letters(9-i))
		}
		was := slices.Clone(whole)
		b := api.Batch{Pid: 1, Records: whole[:n]}
		record.May(b)
		record.Bytes(b)
		record.Same(b, b)
		record.Behind(b)
		l := record.Rows(b, 5)
		for i := range l {
			l[i] = api.Row{Key: "spoilt"}
		}
		l = append(l, api.Row{Key: "spoilt"})
		if !slices.Equal(whole, was) || len(l) != n+1 {
			t.Errorf("%d records are %s now", n, short(whole))
		}
	}
}

// TestResultsAreNew: what is made of one result changes no other one, and no argument.
func TestResultsAreNew(t *testing.T) { // R4
	b := base()
	s := written(b)
	one, two := record.Rows(b, 7), record.Rows(b, 7)
	for i := range one[:cap(one)] {
		one[:cap(one)][i] = api.Row{Key: "spoilt"}
	}
	b.Records[0], b.Records[2] = kv("changed", ""), kv("", "changed")
	if want := record.Rows(base(), 7); !slices.Equal(two, want) {
		t.Errorf("rows share memory: %s", short(two))
	}
	reads := []func() api.Batch{
		func() api.Batch { got, _ := record.Read(s); return got },
		func() api.Batch { return record.Take(fields.New(s)) },
	}
	for i, read := range reads {
		one, two := read(), read()
		for k := range one.Records[:cap(one.Records)] {
			one.Records[:cap(one.Records)][k] = kv("spoilt", "spoilt")
		}
		if !equal(two, base()) || !equal(read(), base()) || s != written(base()) {
			t.Errorf("%d: batches share memory: %s", i, short(two))
		}
	}
	r := fields.New(s + s)
	first := record.Take(r)
	second := record.Take(r)
	first.Records = append(first.Records[:0], kv("spoilt", ""), kv("", "spoilt"), kv("spoilt", "spoilt"))
	if !equal(second, base()) || len(first.Records) != 3 {
		t.Errorf("two batches of one reader share memory: %s", short(second))
	}
}

// TestLongBytes: that much is behind a batch makes its reading no slower; otherwise this takes minutes.
func TestLongBytes(t *testing.T) { // P6.2, R1
	const count = 1 << 16
	b := base()
	r := fields.New(strings.Repeat(written(b), count))
	for range count {
		if !record.Same(record.Take(r), b) {
			t.Fatalf("stopped at %d", r.At)
		}
	}
	if r.End() != api.OK {
		t.Errorf("End at %d", r.At)
	}
}
