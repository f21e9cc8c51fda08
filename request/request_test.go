package request_test

import (
	"bytes"
	"math"
	"math/rand"
	"slices"
	"strings"
	"testing"

	"roving/api"
	"roving/record"
	"roving/request"
)

func kv(key, value string) api.Record { return api.Record{Key: key, Value: value} }

// batch returns a valid batch in which each field is another value.
func batch() api.Batch {
	return api.Batch{Pid: 3, Epoch: 7, Seq: 300, Txn: true, Records: []api.Record{kv("k", "vv"), kv("", "www")}}
}

// longest returns the batch that has the most bytes.
func longest() api.Batch {
	return api.Batch{Pid: 8, Epoch: 100, Seq: 1<<20 - 4, Txn: true, Records: slices.Repeat([]api.Record{kv(letters(16), letters(16))}, 4)}
}

// bases returns valid requests: for each kind one at the place of its number, and some more behind them.
func bases() []api.Req {
	return []api.Req{
		{Kind: api.RqNew},
		{Kind: api.RqInit, Tid: 1, Timeout: 9},
		{Kind: api.RqProduce, Part: 1, B: batch()},
		{Kind: api.RqOffsets, Pid: 4, Epoch: 50, Group: 1, Part: 2, Offset: 300},
		{Kind: api.RqEnd, Pid: 5, Epoch: 51, Yes: true},
		{Kind: api.RqFetch, Part: 2, Offset: 301, Most: 30, Yes: true},
		{Kind: api.RqCommit, Group: 1, Part: 2, Offset: 302},
		{Kind: api.RqRead, Group: 1, Part: 2},
		{Kind: api.RqCut, Part: 1, Offset: 303},
		{Kind: api.RqTick},

		{Kind: api.RqInit, Timeout: 1},
		{Kind: api.RqInit, Tid: 2, Timeout: 20},
		{Kind: api.RqProduce, B: api.Batch{Pid: 1, Records: make([]api.Record, 1)}},
		{Kind: api.RqProduce, Part: 2, B: longest()},
		{Kind: api.RqOffsets, Pid: 1},
		{Kind: api.RqOffsets, Pid: 8, Epoch: 100, Group: 1, Part: 2, Offset: 1 << 20},
		{Kind: api.RqEnd, Pid: 1},
		{Kind: api.RqEnd, Pid: 8, Epoch: 100, Yes: true},
		{Kind: api.RqFetch, Most: 1},
		{Kind: api.RqFetch, Part: 2, Offset: 1 << 20, Most: 64, Yes: true},
		{Kind: api.RqCommit},
		{Kind: api.RqCommit, Group: 1, Part: 2, Offset: 1 << 20},
		{Kind: api.RqRead},
		{Kind: api.RqCut},
		{Kind: api.RqCut, Part: 2, Offset: 1 << 20},
	}
}

// base returns a valid request of a kind.
func base(kind int8) api.Req { return bases()[kind] }

// changed returns a request after a change; it shares no list with the one that was given.
func changed(r api.Req, change func(r *api.Req)) api.Req {
	r.B.Records = slices.Clone(r.B.Records)
	change(&r)
	return r
}

// numbers returns numbers around each bound, and extreme ones.
func numbers() []int {
	return []int{math.MinInt, math.MinInt + 1, -1 << 40, -257, -256, -2, -1, 0, 1, 2, 3, 7, 8, 9, 19, 20, 21, 63, 64, 65, 99, 100, 101, 127, 128,
		255, 256, 257, 1<<20 - 1, 1 << 20, 1<<20 + 1, 1 << 32, 1<<32 + 1, 1<<40 - 1, 1 << 40, 1<<40 + 1, math.MaxInt - 1, math.MaxInt}
}

// batchChanges returns changes of single fields of a batch.
func batchChanges() []func(r *api.Req) {
	l := []func(r *api.Req){
		func(r *api.Req) { r.B.Txn = !r.B.Txn },
		func(r *api.Req) { r.B.Records = nil },
		func(r *api.Req) { r.B.Records = []api.Record{} },
		func(r *api.Req) { r.B.Records = append(r.B.Records, kv("", "")) },
	}
	for _, n := range numbers() {
		l = append(l,
			func(r *api.Req) { r.B.Pid = n },
			func(r *api.Req) { r.B.Epoch = n },
			func(r *api.Req) { r.B.Seq = n })
	}
	for n := range 7 {
		l = append(l, func(r *api.Req) { r.B.Records = make([]api.Record, n) })
	}
	for _, size := range []int{0, 1, 15, 16, 17, 300, 1024, 1025} {
		l = append(l,
			func(r *api.Req) { r.B.Records = append([]api.Record{kv(letters(size), "v")}, r.B.Records...) },
			func(r *api.Req) { r.B.Records = append(r.B.Records, kv("k", letters(size))) })
	}
	return l
}

// requests returns many requests: valid ones, each with each field changed; some of these are valid.
func requests() []api.Req {
	changes := batchChanges()
	changes = append(changes, func(r *api.Req) { r.Yes = !r.Yes }, func(r *api.Req) { r.B = batch() }, func(r *api.Req) { r.B = api.Batch{} })
	for kind := -128; kind <= 127; kind++ {
		changes = append(changes, func(r *api.Req) { r.Kind = int8(kind) })
	}
	for _, p := range places() {
		for _, n := range numbers() {
			changes = append(changes, func(r *api.Req) { *p.of(r) = n })
		}
	}
	l := append(bases(), api.Req{})
	for _, r := range bases() {
		for _, change := range changes {
			l = append(l, changed(r, change))
		}
	}
	return l
}

// twice returns valid requests, each with each two numbers changed.
func twice() []api.Req {
	few := []int{math.MinInt, -1, 0, 1, 2, 3, 8, 9, 20, 64, 100, 1 << 20, 1<<20 + 1, math.MaxInt}
	var l []api.Req
	at := places()
	for _, r := range bases() {
		for i := range at {
			for j := range i {
				for _, n := range few {
					for _, m := range few {
						l = append(l, changed(r, func(r *api.Req) { *at[i].of(r), *at[j].of(r) = n, m }))
					}
				}
			}
		}
	}
	return l
}

// all returns all of these requests.
func all() []api.Req { return append(requests(), twice()...) }

// valids returns the valid ones of them.
func valids() []api.Req {
	return slices.DeleteFunc(all(), func(r api.Req) bool { return !valid(r) })
}

// isWritable tells whether a request has a kind and no number below 0, and a batch that has bytes if it needs one.
func isWritable(r api.Req) bool {
	for _, p := range places() {
		if *p.of(&r) < 0 {
			return false
		}
	}
	return isKind(r.Kind) && (r.Kind != api.RqProduce || record.May(r.B))
}

// wantValid holds May and Bytes of a request to whether it is valid.
func wantValid(t *testing.T, r api.Req, want bool) {
	t.Helper()
	if got := request.May(r); got != want {
		t.Fatalf("May(%s) = %v", short(r), got)
	}
	b, e := request.Bytes(r)
	if want && (e != api.OK || string(b) != written(r)) || !want && (e != api.ErrArg || len(b) != 0) {
		t.Fatalf("Bytes(%s) = % x, %v", short(r), b, e)
	}
}

// wantNone holds Read to ErrCode.
func wantNone(t *testing.T, s string) {
	t.Helper()
	if r, e := request.Read([]byte(s)); e != api.ErrCode || !isEmpty(r) {
		t.Errorf("Read(% .100x) = %s, %v", s, short(r), e)
	}
}

// wantRead holds what Read returns to what the reference reads.
func wantRead(t *testing.T, s string) {
	t.Helper()
	want, ok := taken(s)
	r, e := request.Read([]byte(s))
	if ok != (e == api.OK) || !ok && e != api.ErrCode || !equal(r, want) {
		t.Fatalf("Read(% x) = %s, %v; want %s, %v", s, short(r), e, short(want), ok)
	}
}

// TestMayAtEachBound: each number of each kind, at each bound and past it, or, if the kind hasn't it, not zero.
func TestMayAtEachBound(t *testing.T) { // P8.1
	for name, bounds := range map[string]map[int]bool{
		"Tid":     {-1: false, 0: true, 1: true, 2: true, 3: false},
		"Timeout": {-1: false, 0: false, 1: true, 2: true, 19: true, 20: true, 21: false},
		"Pid":     {-1: false, 0: false, 1: true, 2: true, 7: true, 8: true, 9: false},
		"Epoch":   {-1: false, 0: true, 1: true, 99: true, 100: true, 101: false},
		"Part":    {-1: false, 0: true, 1: true, 2: true, 3: false},
		"Group":   {-1: false, 0: true, 1: true, 2: false},
		"Offset":  {-1: false, 0: true, 1: true, 1<<20 - 1: true, 1 << 20: true, 1<<20 + 1: false},
		"Most":    {-1: false, 0: false, 1: true, 2: true, 63: true, 64: true, 65: false},
	} {
		for n, inside := range bounds {
			for _, r := range bases() {
				want := inside
				if !has(r.Kind, name) {
					want = n == 0
				}
				wantValid(t, changed(r, func(r *api.Req) { *placeOf(name).of(r) = n }), want)
			}
		}
		for _, n := range []int{math.MinInt, math.MinInt + 1, -1 << 32, -256, 1<<8 + 1<<30, 1<<32 + 1, 1<<40 + 1, math.MaxInt} {
			for _, r := range bases() {
				wantValid(t, changed(r, func(r *api.Req) { *placeOf(name).of(r) = n }), false)
			}
		}
	}
}

func TestMayOfEachKind(t *testing.T) { // P8.1
	for _, r := range bases() {
		wantValid(t, r, true)
	}
	for kind, want := range []bool{true, false, false, false, false, false, true, true, true, true} { // what needs no field that isn't 0
		wantValid(t, api.Req{Kind: int8(kind)}, want)
	}
}

func TestMayOfYes(t *testing.T) { // P8.1
	for _, r := range bases() {
		wantValid(t, changed(r, func(r *api.Req) { r.Yes = false }), true)
		wantValid(t, changed(r, func(r *api.Req) { r.Yes = true }), r.Kind == api.RqEnd || r.Kind == api.RqFetch)
	}
}

func TestMayOfKindsThatAreNone(t *testing.T) { // P8.1
	for kind := -128; kind <= 127; kind++ {
		if kind >= 0 && kind <= 9 {
			continue
		}
		wantValid(t, api.Req{Kind: int8(kind)}, false)
		for _, r := range bases() {
			wantValid(t, changed(r, func(r *api.Req) { r.Kind = int8(kind) }), false)
		}
	}
}

// TestMayOfBatches: RqProduce has a valid batch; all other kinds have none, not even a part of one.
func TestMayOfBatches(t *testing.T) { // P8.1
	for i, x := range []struct {
		b    api.Batch
		want bool
	}{
		{batch(), true},
		{longest(), true},
		{api.Batch{}, false},
		{api.Batch{Pid: 1}, false},
		{api.Batch{Pid: 1, Records: make([]api.Record, 1)}, true},
		{api.Batch{Pid: 1, Records: make([]api.Record, 4)}, true},
		{api.Batch{Pid: 1, Records: make([]api.Record, 5)}, false},
		{api.Batch{Pid: 0, Records: make([]api.Record, 1)}, false},
		{api.Batch{Pid: 9, Records: make([]api.Record, 1)}, false},
		{api.Batch{Pid: 1, Epoch: -1, Records: make([]api.Record, 1)}, false},
		{api.Batch{Pid: 1, Epoch: 101, Records: make([]api.Record, 1)}, false},
		{api.Batch{Pid: 1, Seq: -1, Records: make([]api.Record, 1)}, false},
		{api.Batch{Pid: 1, Seq: 1<<20 - 1, Records: make([]api.Record, 1)}, true},
		{api.Batch{Pid: 1, Seq: 1<<20 - 1, Records: make([]api.Record, 2)}, false},
		{api.Batch{Pid: 1, Seq: 1 << 20, Records: make([]api.Record, 1)}, false},
		{api.Batch{Pid: 1, Records: []api.Record{kv("", letters(16))}}, true},
		{api.Batch{Pid: 1, Records: []api.Record{kv("", letters(17))}}, false},
		{api.Batch{Pid: 1, Records: []api.Record{kv("", ""), kv(letters(17), "")}}, false},
	} {
		for part := -1; part <= 3; part++ {
			r := api.Req{Kind: api.RqProduce, Part: part, B: x.b}
			if want := x.want && part >= 0 && part <= 2; request.May(r) != want {
				t.Errorf("%d: May with the partition %d = %v", i, part, !want)
			}
			wantValid(t, r, x.want && part >= 0 && part <= 2)
		}
	}
	for _, r := range bases() {
		for _, change := range batchChanges() {
			x := changed(r, change)
			if r.Kind == api.RqProduce {
				wantValid(t, x, record.May(x.B))
			} else {
				wantValid(t, x, record.Same(x.B, api.Batch{}))
			}
		}
	}
}

// TestMayWithAFieldThatTheKindHasNot: each such field alone, not zero; a list that is empty and not nil is zero.
func TestMayWithAFieldThatTheKindHasNot(t *testing.T) { // P8.1
	for i, f := range []struct {
		kinds string // that have it
		set   func(r *api.Req)
	}{
		{"1", func(r *api.Req) { r.Tid = 1 }},
		{"1", func(r *api.Req) { r.Timeout = 1 }},
		{"34", func(r *api.Req) { r.Pid = 1 }},
		{"34", func(r *api.Req) { r.Epoch = 1 }},
		{"235678", func(r *api.Req) { r.Part = 1 }},
		{"367", func(r *api.Req) { r.Group = 1 }},
		{"3568", func(r *api.Req) { r.Offset = 1 }},
		{"5", func(r *api.Req) { r.Most = 1 }},
		{"45", func(r *api.Req) { r.Yes = true }},
		{"2", func(r *api.Req) { r.B.Pid = 1 }},
		{"2", func(r *api.Req) { r.B.Epoch = 1 }},
		{"2", func(r *api.Req) { r.B.Seq = 1 }},
		{"2", func(r *api.Req) { r.B.Txn = true }},
		{"2", func(r *api.Req) { r.B.Records = []api.Record{{}} }},
		{"2", func(r *api.Req) { r.B.Records = []api.Record{kv("a", "b")} }},
		{"2", func(r *api.Req) { r.B = batch() }},
		{"0123456789", func(r *api.Req) { r.B.Records = append([]api.Record{}, r.B.Records...) }},
		{"013456789", func(r *api.Req) { r.B.Records = []api.Record{} }},
		{"013456789", func(r *api.Req) { r.B.Records = make([]api.Record, 0, 9) }},
	} {
		for _, r := range bases() {
			x := changed(r, f.set)
			want := strings.ContainsRune(f.kinds, '0'+rune(r.Kind))
			if got := request.May(x); got != want {
				t.Errorf("%d: May(%s) = %v", i, short(x), got)
			}
			wantValid(t, x, want)
		}
	}
}

func TestMayAndBytesOfManyRequests(t *testing.T) { // P8.1
	count := map[int8]int{}
	for _, r := range all() {
		wantValid(t, r, valid(r))
		if valid(r) {
			count[r.Kind]++
		}
	}
	for kind := range int8(10) {
		if count[kind] < 20 {
			t.Errorf("%d requests of kind %d are valid", count[kind], kind)
		}
	}
}

// examples returns bytes and the requests that they are.
func examples() map[string]api.Req {
	return map[string]api.Req{
		"\x05\x01\x00\x05\x01": {Kind: api.RqFetch, Part: 1, Most: 5, Yes: true}, // the chapter's
		"\x00":                 {},
		"\x09":                 {Kind: api.RqTick},
		"\x01\x00\x01":         {Kind: api.RqInit, Timeout: 1},
		"\x01\x02\x14":         {Kind: api.RqInit, Tid: 2, Timeout: 20},
		"\x01\x01\x09":         base(api.RqInit),
		"\x02\x00\x07\x01\x00\x00\x00\x01\x00\x00":                   {Kind: api.RqProduce, B: api.Batch{Pid: 1, Records: make([]api.Record, 1)}},
		"\x02\x01\x10\x03\x07\xac\x02\x01\x02\x01k\x02vv\x00\x03www": base(api.RqProduce),
		"\x03\x04\x32\x01\x02\xac\x02":                               base(api.RqOffsets),
		"\x03\x01\x00\x00\x00\x00":                                   {Kind: api.RqOffsets, Pid: 1},
		"\x03\x08\x64\x01\x02\x80\x80\x40":                           {Kind: api.RqOffsets, Pid: 8, Epoch: 100, Group: 1, Part: 2, Offset: 1 << 20},
		"\x04\x05\x33\x01":                                           base(api.RqEnd),
		"\x04\x08\x64\x00":                                           {Kind: api.RqEnd, Pid: 8, Epoch: 100},
		"\x05\x02\xad\x02\x1e\x01":                                   base(api.RqFetch),
		"\x05\x02\x80\x80\x40\x40\x00":                               {Kind: api.RqFetch, Part: 2, Offset: 1 << 20, Most: 64},
		"\x06\x01\x02\xae\x02":                                       base(api.RqCommit),
		"\x06\x00\x00\x00":                                           {Kind: api.RqCommit},
		"\x07\x01\x02":                                               base(api.RqRead),
		"\x07\x00\x00":                                               {Kind: api.RqRead},
		"\x08\x01\xaf\x02":                                           base(api.RqCut),
		"\x08\x02\x80\x80\x40":                                       {Kind: api.RqCut, Part: 2, Offset: 1 << 20},
	}
}

func TestBytesAndReadOfTheExamples(t *testing.T) { // P8.1, P8.2
	for want, r := range examples() {
		if b, e := request.Bytes(r); e != api.OK || string(b) != want {
			t.Errorf("Bytes(%s) = % x, %v; want % x", short(r), b, e, want)
		}
		if got, e := request.Read([]byte(want)); e != api.OK || !equal(got, r) {
			t.Errorf("Read(% x) = %s, %v", want, short(got), e)
		}
	}
}

// apart returns requests no two of which are equal; most differ from others in one field alone.
func apart() []api.Req {
	full := api.Req{Kind: 3, Tid: 1, Timeout: 2, Pid: 3, Epoch: 4, Part: 5, Group: 6, Offset: 7, Most: 8, Yes: true, B: batch()}
	l := []api.Req{full, {}}
	for _, set := range []func(r *api.Req){
		func(r *api.Req) { r.Kind = 4 },
		func(r *api.Req) { r.Kind = -3 },
		func(r *api.Req) { r.Yes = !r.Yes },
		func(r *api.Req) { r.B.Pid = -5 },
		func(r *api.Req) { r.B.Epoch = 1 << 32 },
		func(r *api.Req) { r.B.Seq = math.MaxInt },
		func(r *api.Req) { r.B.Txn = !r.B.Txn },
		func(r *api.Req) { r.B.Records = make([]api.Record, 1) },
		func(r *api.Req) { r.B.Records = append(r.B.Records, kv("", ""), kv("", "")) },
		func(r *api.Req) { r.B.Records = append([]api.Record{kv("", "x")}, r.B.Records...) },
	} {
		l = append(l, changed(full, set), changed(api.Req{}, set))
	}
	for _, p := range places() {
		for _, n := range []int{math.MinInt, -1, 9, 1 << 32, math.MaxInt} {
			set := func(r *api.Req) { *p.of(r) = n }
			l = append(l, changed(full, set), changed(api.Req{}, set))
		}
	}
	for at := range full.B.Records {
		for _, s := range []string{"x", "\x00", letters(17)} {
			l = append(l,
				changed(full, func(r *api.Req) { r.B.Records[at].Key = s }),
				changed(full, func(r *api.Req) { r.B.Records[at].Value = s }))
		}
	}
	return append(l,
		changed(full, func(r *api.Req) { r.B.Records = r.B.Records[:1] }),
		changed(full, func(r *api.Req) { r.B.Records = r.B.Records[1:] }),
		changed(full, func(r *api.Req) { r.B.Records = nil }),
		changed(full, func(r *api.Req) { slices.Reverse(r.B.Records) }),
		changed(full, func(r *api.Req) { r.B.Records[0] = kv("vv", "k") }),
		changed(full, func(r *api.Req) { r.B.Records[0] = kv("kv", "v") }))
}

func TestSame(t *testing.T) { // P8.1
	l := apart()
	for i, a := range l {
		for j, b := range l {
			b = changed(b, func(*api.Req) {})
			if got := request.Same(a, b); got != (i == j) {
				t.Errorf("Same(%s, %s) = %v", short(a), short(b), got)
			}
		}
	}
}

func TestNilAndEmptyAreTheSame(t *testing.T) { // P8.1, R1
	for _, r := range append(bases(), api.Req{Kind: -1}) {
		x := changed(r, func(r *api.Req) { r.B.Records = nil })
		y := changed(r, func(r *api.Req) { r.B.Records = []api.Record{} })
		if !request.Same(x, y) || !request.Same(y, x) {
			t.Errorf("a nil list and an empty one are apart in %s", short(r))
		}
		one, e := request.Bytes(x)
		two, f := request.Bytes(y)
		if request.May(x) != request.May(y) || string(one) != string(two) || e != f {
			t.Errorf("%s hangs on whether a list is nil", short(r))
		}
	}
	wantNone(t, "")
	if r, e := request.Read(nil); e != api.ErrCode || !isEmpty(r) {
		t.Errorf("Read(nil) = %s, %v", short(r), e)
	}
}

func TestChanges(t *testing.T) { // P8.1
	for kind := -128; kind <= 127; kind++ {
		want := false
		switch kind {
		case 0, 1, 2, 3, 4, 6, 8, 9:
			want = true
		}
		if got := request.Changes(int8(kind)); got != want {
			t.Errorf("Changes(%d) = %v", kind, got)
		}
	}
	if request.Changes(api.RqFetch) || request.Changes(api.RqRead) || !request.Changes(api.RqNew) || !request.Changes(api.RqTick) {
		t.Error("Changes of the kinds' names")
	}
}

func TestReadOfBytes(t *testing.T) { // P8.2
	for _, r := range valids() {
		if got, e := request.Read([]byte(written(r))); e != api.OK || !equal(got, r) {
			t.Fatalf("Read of the bytes of %s = %s, %v", short(r), short(got), e)
		}
	}
}

// TestReadOfWhatIsNotValid: what would be the bytes of a request if it were valid.
func TestReadOfWhatIsNotValid(t *testing.T) { // P8.2
	count := map[int8]int{}
	for _, r := range all() {
		if !isWritable(r) {
			continue
		}
		wantRead(t, written(r))
		if _, ok := taken(written(r)); !ok {
			wantNone(t, written(r))
			count[r.Kind]++
		}
	}
	for kind := int8(1); kind < 9; kind++ { // the first and the last have no fields
		if count[kind] < 20 {
			t.Errorf("%d requests of kind %d that are not valid were read", count[kind], kind)
		}
	}
}

func TestReadOfEachBeginning(t *testing.T) { // P8.2
	for _, r := range bases() {
		s := written(r)
		for size := range len(s) {
			wantNone(t, s[:size])
		}
	}
}

func TestReadWithMoreBehind(t *testing.T) { // P8.2
	for _, r := range bases() {
		s := written(r)
		for c := range 256 {
			wantNone(t, s+string([]byte{byte(c)}))
		}
		for _, more := range []string{s, "\x00\x00", "\x80\x80\x80\x80\x80\x80\x80", strings.Repeat("\x00", 1<<20)} {
			wantNone(t, s+more)
		}
	}
}

// TestReadOfChangedBytes: each byte is changed to each other one, taken away, or doubled; one is put before it.
func TestReadOfChangedBytes(t *testing.T) { // P8.2, P8.3
	for _, r := range bases() {
		s := written(r)
		for at := range len(s) {
			for c := range 256 {
				one := string([]byte{byte(c)})
				wantRead(t, s[:at]+one+s[at+1:])
				wantRead(t, s[:at]+one+s[at:])
				if got, e := request.Read([]byte(s[:at] + one + s[at+1:])); e == api.OK && equal(got, r) != (one == s[at:at+1]) {
					t.Fatalf("byte %d of % x is %x: Read = %s", at, s, c, short(got))
				}
			}
			wantRead(t, s[:at]+s[at+1:])
		}
	}
}

func TestReadOfKindsThatAreNone(t *testing.T) { // P8.2
	for _, r := range bases() {
		rest := written(r)[1:]
		for kind := 10; kind < 300; kind++ {
			wantNone(t, number(kind)+rest)
		}
		for _, bits := range []int{8, 16, 32, 39} {
			wantNone(t, number(1<<bits+int(r.Kind))+rest) // in fewer bits it would be the kind
		}
		for more := 1; more <= 10; more++ {
			wantNone(t, string([]byte{byte(r.Kind) + 128})+strings.Repeat("\x80", more-1)+"\x00"+rest)
		}
	}
	for kind := range 256 {
		wantRead(t, string([]byte{byte(kind)}))
	}
}

// TestReadOfNumbersInMoreBytes: each number of a request with some bytes more than it needs, or with a bit that would be shifted out.
func TestReadOfNumbersInMoreBytes(t *testing.T) { // P8.2
	for _, r := range bases() {
		l := pieces(r)
		for i, piece := range l {
			number := piece
			if i > 0 && kinds()[r.Kind][i-1] == "B" {
				s, _ := record.Bytes(r.B)
				number = strings.TrimSuffix(piece, s) // the length of the batch's text
			}
			last := len(number) - 1
			for _, more := range []string{"\x00", "\x80\x00", "\x80\x80\x80\x80\x80\x80\x80\x00", strings.Repeat("\x80", 8-last) + "\x02"} {
				long := number[:last] + string([]byte{number[last] + 128}) + more
				wantNone(t, strings.Join(l[:i], "")+long+piece[last+1:]+strings.Join(l[i+1:], ""))
			}
		}
	}
	for _, s := range []string{"\x80\x00", "\x81\x00\x01\x09", "\x01\x81\x00\x09", "\x01\x01\x89\x00", "\x04\x01\x00\x81\x00", "\x05\x01\x80\x00\x05\x01"} {
		wantNone(t, s)
	}
}

func TestReadOfAYesThatIsNone(t *testing.T) { // P8.2
	for c := 2; c < 256; c++ {
		yes := string([]byte{byte(c)})
		wantNone(t, "\x04\x01\x00"+yes)
		wantNone(t, "\x05\x01\x00\x05"+yes)
	}
	for _, kind := range []string{"\x04\x01\x00", "\x05\x01\x00\x05"} {
		for _, yes := range []bool{false, true} {
			if r, e := request.Read([]byte(kind + flag(yes))); e != api.OK || r.Yes != yes {
				t.Errorf("Read with the flag %v = %s, %v", yes, short(r), e)
			}
		}
		wantNone(t, kind)
		wantNone(t, kind+"\x80")
	}
}

// TestReadOfBatches: the text is not exactly a batch's bytes, or its length is not that of the text.
func TestReadOfBatches(t *testing.T) { // P8.2
	for _, b := range []api.Batch{batch(), longest(), base(api.RqProduce).B, {Pid: 1, Records: make([]api.Record, 1)}} {
		s, _ := record.Bytes(b)
		if r, e := request.Read([]byte("\x02\x01" + text(s))); e != api.OK || !equal(r, api.Req{Kind: 2, Part: 1, B: b}) {
			t.Errorf("Read = %s, %v", short(r), e)
		}
		wantNone(t, "\x02\x01"+s)
		wantNone(t, "\x02\x01"+text(text(s)))
		wantNone(t, "\x02\x01"+text(s+s))
		wantNone(t, "\x02\x01"+text(s)+text(s))
		wantNone(t, "\x02\x01"+text(s)+text(""))
		for size := range len(s) { // shorter, whether or not the rest follows
			wantNone(t, "\x02\x01"+text(s[:size]))
			wantNone(t, "\x02\x01"+text(s[:size])+s[size:])
			wantNone(t, "\x02\x01"+number(len(s))+s[:size])
		}
		for more := 1; more <= 300; more++ { // longer, whether or not there is as much
			wantNone(t, "\x02\x01"+text(s+strings.Repeat("\x00", more)))
			wantNone(t, "\x02\x01"+text(s+letters(more)))
			wantNone(t, "\x02\x01"+number(len(s)+more)+s)
		}
		wantNone(t, "\x02\x03"+text(s))
	}
	for _, s := range []string{"", "\x00", "a", letters(7), letters(160), letters(1023), letters(1024), letters(1025), strings.Repeat("\x00", 1<<16)} {
		wantNone(t, "\x02\x00"+text(s))
	}
	for _, n := range []int{1, 160, 1024, 1025, 1 << 20, 1 << 31, 1 << 32, 1 << 40, 1<<40 + 1} {
		wantNone(t, "\x02\x00"+number(n))
		wantNone(t, "\x02\x00"+number(n)+"\x01\x00\x00\x00\x01\x00\x00")
	}
}

// TestReadOfAllShortStrings: all strings of up to six bytes of some that make requests.
func TestReadOfAllShortStrings(t *testing.T) { // P8.2, P8.3
	alphabet := "\x00\x01\x02\x03\x04\x05\x06\x07\x08\x09\x80"
	count := map[int8]int{}
	var each func(s string, left int)
	each = func(s string, left int) {
		want, ok := taken(s)
		r, e := request.Read([]byte(s))
		if ok != (e == api.OK) || !ok && e != api.ErrCode || !request.Same(r, want) {
			t.Fatalf("Read(% x) = %s, %v; want %s", s, short(r), e, short(want))
		}
		if ok {
			count[r.Kind]++
			if back, e := request.Bytes(r); e != api.OK || string(back) != s {
				t.Fatalf("Read(% x) = %s, but its Bytes are % x, %v", s, short(r), back, e)
			}
		}
		if left == 0 {
			return
		}
		for i := range len(alphabet) {
			each(s+alphabet[i:i+1], left-1)
		}
	}
	each("", 5)
	for _, first := range []string{"\x03\x01", "\x03\x04"} { // the one kind of five fields
		each(first, 4)
	}
	for kind := range int8(10) {
		want := 1 // the first and the last have no fields
		if kind > 0 && kind < 9 {
			want = 6
		}
		if kind != api.RqProduce && count[kind] < want {
			t.Errorf("%d strings are requests of kind %d", count[kind], kind)
		}
	}
}

func TestReadOfBytesAndBytesOfRead(t *testing.T) { // P8.3
	seen := map[string]api.Req{}
	for _, r := range valids() {
		b, e := request.Bytes(r)
		if e != api.OK || len(b) > api.MaxLoad {
			t.Fatalf("Bytes(%s) = % x, %v", short(r), b, e)
		}
		back, e := request.Read(b)
		if e != api.OK || !equal(back, r) || !request.Same(back, r) || !request.May(back) {
			t.Fatalf("Read(Bytes(%s)) = %s, %v", short(r), short(back), e)
		}
		again, e := request.Bytes(back)
		if e != api.OK || !bytes.Equal(again, b) {
			t.Fatalf("Bytes(Read(% x)) = % x, %v", b, again, e)
		}
		if other, ok := seen[string(b)]; ok && !request.Same(other, r) {
			t.Fatalf("%s and %s have the same bytes", short(other), short(r))
		}
		seen[string(b)] = r
	}
}

// randomRequest returns a request that is valid.
func randomRequest(x *rand.Rand) api.Req {
	r := api.Req{Kind: int8(x.Intn(10))}
	for _, p := range places() {
		if has(r.Kind, p.name) {
			*p.of(&r) = p.least + x.Intn(min(p.most-p.least, 1<<x.Intn(21))+1)
		}
	}
	if has(r.Kind, "Yes") {
		r.Yes = x.Intn(2) == 1
	}
	if has(r.Kind, "B") {
		r.B = api.Batch{Pid: 1 + x.Intn(8), Epoch: x.Intn(101), Seq: x.Intn(1 << x.Intn(20)), Txn: x.Intn(2) == 1}
		for range 1 + x.Intn(4) {
			r.B.Records = append(r.B.Records, kv(letters(x.Intn(17)), letters(x.Intn(17))))
		}
	}
	return r
}

// TestOfRandomRequests: requests by chance, and what some changed bytes make of them.
func TestOfRandomRequests(t *testing.T) { // P8.1, P8.2, P8.3
	x := rand.New(rand.NewSource(8))
	for range 40000 {
		r := randomRequest(x)
		wantValid(t, r, true)
		s := []byte(written(r))
		wantRead(t, string(s))
		for range 1 + x.Intn(3) {
			s[x.Intn(len(s))] = byte(x.Intn(256) >> x.Intn(8))
		}
		wantRead(t, string(s))
		if back, e := request.Read(s); e == api.OK {
			if again, e := request.Bytes(back); e != api.OK || !bytes.Equal(again, s) {
				t.Fatalf("Bytes(Read(% x)) = % x, %v", s, again, e)
			}
		}
	}
}

// TestReadOfAnyBytes: any bytes are a request or ErrCode, and nothing else.
func TestReadOfAnyBytes(t *testing.T) { // P8.3, R1
	x := rand.New(rand.NewSource(9))
	for range 200000 {
		s := make([]byte, x.Intn(40))
		for i := range s {
			s[i] = byte(x.Intn(256) >> x.Intn(9))
		}
		wantRead(t, string(s))
	}
}

// TestRequestsStay: no call changes the list that it is given, or what is behind it.
func TestRequestsStay(t *testing.T) { // R4
	for _, r := range append(bases(), api.Req{Kind: 99, B: batch()}, api.Req{Kind: api.RqTick, B: batch()}) {
		records := slices.Repeat([]api.Record{kv("spare", "room")}, 9)
		copy(records, r.B.Records)
		x := r
		x.B.Records = records[:len(r.B.Records)]
		were := slices.Clone(records)
		request.May(x)
		request.Bytes(x)
		request.Same(x, r)
		request.Same(r, x)
		if !slices.Equal(records, were) {
			t.Errorf("%s has changed", short(r))
		}
	}
}

// TestBytesStay: Read changes neither the bytes that it is given nor what is behind them, and keeps none of them.
func TestBytesStay(t *testing.T) { // R4
	inputs := []string{"", "\x0a", "\x02\x01\x05\x01\x00", "\x05\x01\x00\x05\x02"}
	for _, r := range bases() {
		inputs = append(inputs, written(r), written(r)+"\x00")
	}
	for _, s := range inputs {
		whole := append([]byte(s), "spare room"...)
		r, e := request.Read(whole[:len(s)])
		if string(whole) != s+"spare room" {
			t.Errorf("Read(% x) changed its argument", s)
		}
		for i := range whole {
			whole[i] = 0x55
		}
		want, ok := taken(s)
		if ok != (e == api.OK) || !equal(r, want) {
			t.Errorf("Read(% x) keeps its argument: %s, %v", s, short(r), e)
		}
	}
}

// TestResultsAreNew: what is made of one result changes no other one, and no argument.
func TestResultsAreNew(t *testing.T) { // R4
	for _, r := range bases() {
		s := written(r)
		one, _ := request.Bytes(r)
		two, _ := request.Bytes(r)
		for i := range one[:cap(one)] {
			one[:cap(one)][i] = 0x55
		}
		if three, _ := request.Bytes(r); string(two) != s || string(three) != s {
			t.Errorf("bytes share memory: % x", two)
		}
		first, _ := request.Read([]byte(s))
		second, _ := request.Read([]byte(s))
		for i := range first.B.Records[:cap(first.B.Records)] {
			first.B.Records[:cap(first.B.Records)][i] = kv("spoilt", "spoilt")
		}
		if third, _ := request.Read([]byte(s)); !equal(second, r) || !equal(third, r) {
			t.Errorf("requests share memory: %s", short(second))
		}
	}
}

// TestOfLongArguments: lists and texts that are far too long, and bytes.
func TestOfLongArguments(t *testing.T) { // R1
	many := api.Batch{Pid: 1, Records: make([]api.Record, 1<<20)}
	long := api.Batch{Pid: 1, Records: []api.Record{kv(strings.Repeat("a", 1<<20), "")}}
	for _, b := range []api.Batch{many, long} {
		for kind := range int8(11) {
			r := changed(api.Req{}, func(r *api.Req) { r.Kind, r.B = kind, b })
			wantValid(t, r, false)
			if !request.Same(r, r) || request.Same(r, api.Req{Kind: kind}) {
				t.Error("Same of long requests")
			}
		}
	}
	for _, c := range []string{"\x00", "\x01", "\x02", "\x09", "\x80", "\xff"} {
		wantNone(t, strings.Repeat(c, 1<<22))
	}
}
