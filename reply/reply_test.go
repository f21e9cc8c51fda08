package reply_test

import (
	"bytes"
	"math"
	"math/rand"
	"slices"
	"strings"
	"testing"

	"roving/api"
	"roving/reply"
)

// full returns a row in which each field is another value.
func full() api.Row { return api.Row{Offset: 300, Pid: 3, Seq: 200, Key: "k", Value: "vv"} }

// least and most return the rows with the least and the greatest fields.
func least() api.Row { return api.Row{Offset: -1, Pid: 1} }

func most() api.Row {
	return api.Row{Offset: 1 << 20, Pid: 8, Seq: 1<<20 - 1, Key: letters(16), Value: letters(16)}
}

// bases returns valid replies: for each kind one at the place of its number, and some more behind them.
func bases() []api.Reply {
	l := []api.Reply{
		{Kind: api.RqNew, Pid: 4},
		{Kind: api.RqInit, Pid: 5, Epoch: 50},
		{Kind: api.RqProduce, Offset: 301},
		{Kind: api.RqOffsets},
		{Kind: api.RqEnd},
		{Kind: api.RqFetch, Offset: 302, Rows: []api.Row{full(), {Offset: -1, Pid: 2, Seq: 4}, least()}},
		{Kind: api.RqCommit},
		{Kind: api.RqRead, Offset: 303},
		{Kind: api.RqCut},
		{Kind: api.RqTick},

		{Kind: api.RqNew, Pid: 1},
		{Kind: api.RqNew, Pid: 8},
		{Kind: api.RqInit, Pid: 1},
		{Kind: api.RqInit, Pid: 8, Epoch: 100},
		{Kind: api.RqProduce},
		{Kind: api.RqProduce, Offset: -1},
		{Kind: api.RqProduce, Offset: 1 << 20},
		{Kind: api.RqFetch},
		{Kind: api.RqFetch, Offset: 1 << 20},
		{Kind: api.RqFetch, Offset: 1, Rows: []api.Row{most()}},
		{Kind: api.RqFetch, Rows: slices.Repeat([]api.Row{least()}, 64)},
		{Kind: api.RqRead},
		{Kind: api.RqRead, Offset: -1},
		{Kind: api.RqRead, Offset: 1 << 20},
	}
	for kind := range int8(10) {
		l = append(l, api.Reply{Kind: kind, E: 1 + api.Errno(kind)*44}) // 1 to 397
	}
	return l
}

// base returns a valid reply of a kind, in which no field that it has is 0.
func base(kind int8) api.Reply { return bases()[kind] }

// longest returns the reply that has the most bytes.
func longest() api.Reply {
	return api.Reply{Kind: api.RqFetch, Offset: 1 << 20, Rows: slices.Repeat([]api.Row{most()}, 64)}
}

// change is a change of a reply.
type change func(r *api.Reply)

// changed returns a reply after some changes; it shares no list with the one that was given.
func changed(r api.Reply, changes ...change) api.Reply {
	r.Rows = slices.Clone(r.Rows)
	for _, c := range changes {
		c(&r)
	}
	return r
}

// numbers returns numbers around each bound, and extreme ones.
func numbers() []int {
	return []int{math.MinInt, math.MinInt + 1, -1 << 40, -257, -256, -3, -2, -1, 0, 1, 2, 7, 8, 9, 63, 64, 65, 99, 100, 101, 127, 128,
		255, 256, 257, 399, 400, 401, 1<<20 - 2, 1<<20 - 1, 1 << 20, 1<<20 + 1, 1 << 32, 1<<32 + 1, 1<<40 - 1, 1 << 40, 1<<40 + 1,
		math.MaxInt - 1, math.MaxInt}
}

// place is where a number stands in a reply.
type place struct {
	name string
	of   func(r *api.Reply) *int
}

// places returns the places of the numbers behind E.
func places() []place {
	return []place{
		{"Pid", func(r *api.Reply) *int { return &r.Pid }},
		{"Epoch", func(r *api.Reply) *int { return &r.Epoch }},
		{"Offset", func(r *api.Reply) *int { return &r.Offset }},
	}
}

// rowChange is a change of a row.
type rowChange func(x *api.Row)

// rowChanges returns changes of single fields of a row.
func rowChanges() []rowChange {
	var l []rowChange
	for _, n := range numbers() {
		l = append(l,
			func(x *api.Row) { x.Offset = n },
			func(x *api.Row) { x.Pid = n },
			func(x *api.Row) { x.Seq = n })
	}
	for _, size := range []int{0, 1, 15, 16, 17, 18, 127, 128, 1023, 1024, 1025} {
		l = append(l,
			func(x *api.Row) { x.Key = letters(size) },
			func(x *api.Row) { x.Value = letters(size) })
	}
	return l
}

// changes returns changes of single fields of a reply.
func changes() []change {
	var l []change
	for kind := -128; kind <= 127; kind++ {
		l = append(l, func(r *api.Reply) { r.Kind = int8(kind) })
	}
	for _, n := range numbers() {
		l = append(l, func(r *api.Reply) { r.E = api.Errno(n) })
		for _, p := range places() {
			l = append(l, func(r *api.Reply) { *p.of(r) = n })
		}
	}
	for _, n := range []int{0, 1, 2, 3, 4, 63, 64, 65, 66, 100, 200} {
		l = append(l,
			func(r *api.Reply) { r.Rows = slices.Repeat([]api.Row{full()}, n) },
			func(r *api.Reply) { r.Rows = make([]api.Row, n) })
	}
	for _, c := range rowChanges() {
		x := full()
		c(&x)
		l = append(l,
			func(r *api.Reply) { r.Rows = append([]api.Row{x}, r.Rows...) },
			func(r *api.Reply) { r.Rows = append(r.Rows, x) })
	}
	return l
}

// replies returns many replies: valid ones, and each with each field changed; some of these are valid.
func replies() []api.Reply {
	l := append(bases(), longest(), api.Reply{})
	for _, r := range bases() {
		for _, c := range changes() {
			l = append(l, changed(r, c))
		}
	}
	return l
}

// twice returns valid replies with each two numbers changed.
func twice() []api.Reply {
	few := []int{math.MinInt, -1, 0, 1, 8, 9, 100, 101, 400, 401, 1 << 20, 1<<20 + 1, math.MaxInt}
	at := append(places(), place{"E", nil})
	set := func(p place, n int) change {
		if p.of == nil {
			return func(r *api.Reply) { r.E = api.Errno(n) }
		}
		return func(r *api.Reply) { *p.of(r) = n }
	}
	var l []api.Reply
	for _, r := range bases() {
		for i, p := range at {
			for _, q := range at[:i] {
				for _, n := range few {
					for _, m := range few {
						l = append(l, changed(r, set(p, n), set(q, m)))
					}
				}
			}
		}
	}
	return l
}

// all returns all of these replies.
func all() []api.Reply { return append(replies(), twice()...) }

// valids returns the valid ones of them.
func valids() []api.Reply {
	return slices.DeleteFunc(all(), func(r api.Reply) bool { return !valid(r) })
}

// isWritable tells whether a reply has a kind, and only numbers that have bytes.
func isWritable(r api.Reply) bool {
	return isKind(r.Kind) && isIn(int(r.E), 0, 1<<40) && isIn(r.Pid, 0, 1<<40) && isIn(r.Epoch, 0, 1<<40) &&
		isPlace(r.Offset) && (r.Kind != api.RqFetch || r.Offset >= 0) &&
		!slices.ContainsFunc(r.Rows, func(x api.Row) bool { return !isPlace(x.Offset) || !isIn(x.Pid, 0, 1<<40) || !isIn(x.Seq, 0, 1<<40) })
}

// isPlace tells whether an offset has bytes even where it is written greater by 1.
func isPlace(offset int) bool { return isIn(offset, -1, 1<<40-1) }

// wantValid holds May and Bytes of a reply to whether it is valid.
func wantValid(t *testing.T, r api.Reply, want bool) {
	t.Helper()
	if got := reply.May(r); got != want {
		t.Fatalf("May(%s) = %v", short(r), got)
	}
	b, e := reply.Bytes(r)
	if want && (e != api.OK || string(b) != written(r)) || !want && (e != api.ErrArg || len(b) != 0) {
		t.Fatalf("Bytes(%s) = % .100x, %v", short(r), b, e)
	}
}

// wantNone holds Read to ErrCode.
func wantNone(t *testing.T, s string) {
	t.Helper()
	if r, e := reply.Read([]byte(s)); e != api.ErrCode || !isEmpty(r) {
		t.Errorf("Read(% .100x) = %s, %v", s, short(r), e)
	}
}

// wantRead holds what Read returns to what the reference reads.
func wantRead(t *testing.T, s string) {
	t.Helper()
	want, ok := taken(s)
	r, e := reply.Read([]byte(s))
	if ok != (e == api.OK) || !ok && e != api.ErrCode || !equal(r, want) {
		t.Fatalf("Read(% .100x) = %s, %v; want %s, %v", s, short(r), e, short(want), ok)
	}
}

func TestMayOfEachKind(t *testing.T) { // P9.1
	for _, r := range append(bases(), longest()) {
		wantValid(t, r, true)
	}
	for kind := range int8(10) { // a kind with a Pid needs one that isn't 0
		wantValid(t, api.Reply{Kind: kind}, kind != api.RqNew && kind != api.RqInit)
	}
}

// TestMayAtEachBound: each number of each kind at each bound and one past it.
func TestMayAtEachBound(t *testing.T) { // P9.1
	for _, x := range []struct {
		kind   int8
		name   string
		bounds map[int]bool
	}{
		{api.RqNew, "Pid", map[int]bool{-1: false, 0: false, 1: true, 2: true, 7: true, 8: true, 9: false}},
		{api.RqInit, "Pid", map[int]bool{-1: false, 0: false, 1: true, 2: true, 7: true, 8: true, 9: false}},
		{api.RqInit, "Epoch", map[int]bool{-2: false, -1: false, 0: true, 1: true, 99: true, 100: true, 101: false}},
		{api.RqProduce, "Offset", map[int]bool{-3: false, -2: false, -1: true, 0: true, 1: true, 1<<20 - 1: true, 1 << 20: true, 1<<20 + 1: false}},
		{api.RqRead, "Offset", map[int]bool{-3: false, -2: false, -1: true, 0: true, 1: true, 1<<20 - 1: true, 1 << 20: true, 1<<20 + 1: false}},
		{api.RqFetch, "Offset", map[int]bool{-3: false, -2: false, -1: false, 0: true, 1: true, 1<<20 - 1: true, 1 << 20: true, 1<<20 + 1: false}},
	} {
		for _, p := range places() {
			if p.name != x.name {
				continue
			}
			for n, want := range x.bounds {
				wantValid(t, changed(base(x.kind), func(r *api.Reply) { *p.of(r) = n }), want)
			}
			for _, n := range []int{math.MinInt, math.MinInt + 1, -1 << 32, -256, 1<<8 + 1<<30, 1<<32 + 1, 1 << 40, 1<<40 + 1, math.MaxInt - 1, math.MaxInt} {
				wantValid(t, changed(base(x.kind), func(r *api.Reply) { *p.of(r) = n }), false)
			}
		}
	}
}

// TestMayOfRows: how many there are, and each field of the first, of one between and of the last one.
func TestMayOfRows(t *testing.T) { // P9.1
	for n := range 130 {
		for _, x := range []api.Row{least(), full(), most()} {
			wantValid(t, api.Reply{Kind: api.RqFetch, Rows: slices.Repeat([]api.Row{x}, n)}, n <= 64)
		}
		wantValid(t, api.Reply{Kind: api.RqFetch, Rows: make([]api.Row, n)}, n == 0) // a row needs a Pid
	}
	for i, f := range []struct {
		set  rowChange
		want bool
	}{
		{func(x *api.Row) { x.Offset = math.MinInt }, false},
		{func(x *api.Row) { x.Offset = -2 }, false},
		{func(x *api.Row) { x.Offset = -1 }, true},
		{func(x *api.Row) { x.Offset = 0 }, true},
		{func(x *api.Row) { x.Offset = 1 << 20 }, true},
		{func(x *api.Row) { x.Offset = 1<<20 + 1 }, false},
		{func(x *api.Row) { x.Offset = math.MaxInt }, false},
		{func(x *api.Row) { x.Pid = -1 }, false},
		{func(x *api.Row) { x.Pid = 0 }, false},
		{func(x *api.Row) { x.Pid = 1 }, true},
		{func(x *api.Row) { x.Pid = 8 }, true},
		{func(x *api.Row) { x.Pid = 9 }, false},
		{func(x *api.Row) { x.Seq = -1 }, false},
		{func(x *api.Row) { x.Seq = 0 }, true},
		{func(x *api.Row) { x.Seq = 1<<20 - 1 }, true},
		{func(x *api.Row) { x.Seq = 1 << 20 }, false},
		{func(x *api.Row) { x.Seq = 1<<20 + 1 }, false},
		{func(x *api.Row) { x.Key = "" }, true},
		{func(x *api.Row) { x.Key = letters(16) }, true},
		{func(x *api.Row) { x.Key = letters(17) }, false},
		{func(x *api.Row) { x.Value = "" }, true},
		{func(x *api.Row) { x.Value = letters(16) }, true},
		{func(x *api.Row) { x.Value = letters(17) }, false},
		{func(x *api.Row) { x.Value = letters(1025) }, false},
	} {
		for _, n := range []int{1, 2, 3, 64} {
			for _, at := range []int{0, n / 2, n - 1} {
				r := api.Reply{Kind: api.RqFetch, Offset: 7, Rows: slices.Repeat([]api.Row{full()}, n)}
				f.set(&r.Rows[at])
				if got := reply.May(r); got != f.want {
					t.Errorf("%d: May with row %d of %d changed = %v", i, at, n, got)
				}
				wantValid(t, r, f.want)
			}
		}
	}
}

// extras returns each field alone, not zero, and the kinds that have it.
func extras() []struct {
	kinds string
	set   change
} {
	return []struct {
		kinds string
		set   change
	}{
		{"01", func(r *api.Reply) { r.Pid = 1 }},
		{"01", func(r *api.Reply) { r.Pid = 8 }},
		{"", func(r *api.Reply) { r.Pid = -1 }},
		{"1", func(r *api.Reply) { r.Epoch = 1 }},
		{"1", func(r *api.Reply) { r.Epoch = 100 }},
		{"", func(r *api.Reply) { r.Epoch = -1 }},
		{"257", func(r *api.Reply) { r.Offset = 1 }},
		{"257", func(r *api.Reply) { r.Offset = 1 << 20 }},
		{"27", func(r *api.Reply) { r.Offset = -1 }},
		{"5", func(r *api.Reply) { r.Rows = []api.Row{full()} }},
		{"5", func(r *api.Reply) { r.Rows = []api.Row{least()} }},
		{"5", func(r *api.Reply) { r.Rows = slices.Repeat([]api.Row{most()}, 64) }},
		{"", func(r *api.Reply) { r.Rows = []api.Row{{}} }},
		{"", func(r *api.Reply) { r.Rows = make([]api.Row, 65) }},
	}
}

// TestMayWithAFieldThatTheKindHasNot: each such field alone, not zero.
func TestMayWithAFieldThatTheKindHasNot(t *testing.T) { // P9.1
	for i, f := range extras() {
		for kind := range int8(10) {
			r := changed(base(kind), f.set)
			want := strings.ContainsRune(f.kinds, '0'+rune(kind))
			if got := reply.May(r); got != want {
				t.Errorf("%d: May(%s) = %v", i, short(r), got)
			}
			wantValid(t, r, want)
		}
	}
}

func TestMayOfKindsThatAreNone(t *testing.T) { // P9.1
	for kind := -128; kind <= 127; kind++ {
		if kind >= 0 && kind <= 9 {
			continue
		}
		wantValid(t, api.Reply{Kind: int8(kind)}, false)
		wantValid(t, api.Reply{Kind: int8(kind), E: api.ErrFull}, false)
		for _, r := range bases() {
			wantValid(t, changed(r, func(r *api.Reply) { r.Kind = int8(kind) }), false)
		}
	}
}

// TestMayOfErrors: each number may be an error, whether it has a name or not; with an error there is no field.
func TestMayOfErrors(t *testing.T) { // P9.1
	for kind := range int8(10) {
		for e := api.Errno(-300); e <= 1000; e++ {
			want := e >= 0 && e <= 400
			if e == 0 {
				want = kind != api.RqNew && kind != api.RqInit
			}
			wantValid(t, api.Reply{Kind: kind, E: e}, want)
		}
		for _, e := range []api.Errno{math.MinInt, -1 << 32, 1 << 8, 1 << 9, 1 << 32, 1<<32 + 1, 1 << 40, 1<<40 + 1, math.MaxInt} {
			wantValid(t, api.Reply{Kind: kind, E: e}, e == 1<<8)
		}
		for _, e := range []api.Errno{-1, 1, api.ErrArg, api.ErrOffset, 399, 400, 401} {
			for i, f := range extras() {
				r := changed(api.Reply{Kind: kind, E: e}, f.set)
				if reply.May(r) {
					t.Errorf("%d: May(%s) = true", i, short(r))
				}
				wantValid(t, r, false)
			}
			wantValid(t, changed(base(kind), func(r *api.Reply) { r.E = e }), e > 0 && e <= 400 && len(fieldsOf(kind)) == 0)
		}
	}
}

func TestMayAndBytesOfManyReplies(t *testing.T) { // P9.1, P9.2
	count := map[int8]int{}
	for _, r := range all() {
		wantValid(t, r, valid(r))
		if valid(r) {
			count[r.Kind]++
		}
	}
	for kind := range int8(10) {
		if count[kind] < 20 {
			t.Errorf("%d replies of kind %d are valid", count[kind], kind)
		}
	}
}

// apart returns replies no two of which are equal; most differ from others in one field alone. Few are valid.
func apart() []api.Reply {
	whole := api.Reply{Kind: 5, E: 6, Pid: 7, Epoch: 8, Offset: 9, Rows: []api.Row{full(), {Offset: -1, Pid: 2, Key: "x"}}}
	l := []api.Reply{whole, {}}
	sets := []change{
		func(r *api.Reply) { r.Kind = 4 },
		func(r *api.Reply) { r.Kind = -3 },
		func(r *api.Reply) { r.E = -1 },
		func(r *api.Reply) { r.E = 401 },
		func(r *api.Reply) { r.E = 1 << 32 },
		func(r *api.Reply) { r.Rows = make([]api.Row, 1) },
		func(r *api.Reply) { r.Rows = append(r.Rows, api.Row{}, api.Row{}) },
		func(r *api.Reply) { r.Rows = append([]api.Row{{Value: "x"}}, r.Rows...) },
	}
	for _, p := range places() {
		for _, n := range []int{math.MinInt, -2, -1, 77, 1 << 32, math.MaxInt} {
			sets = append(sets, func(r *api.Reply) { *p.of(r) = n })
		}
	}
	for _, set := range sets {
		l = append(l, changed(whole, set), changed(api.Reply{}, set))
	}
	for at := range whole.Rows {
		for _, set := range []rowChange{
			func(x *api.Row) { x.Offset = -2 },
			func(x *api.Row) { x.Offset = 0 },
			func(x *api.Row) { x.Offset = 301 },
			func(x *api.Row) { x.Offset = math.MaxInt },
			func(x *api.Row) { x.Pid = 9 },
			func(x *api.Row) { x.Pid = -1 },
			func(x *api.Row) { x.Seq = 201 },
			func(x *api.Row) { x.Seq = math.MinInt },
			func(x *api.Row) { x.Key = "\x00" },
			func(x *api.Row) { x.Key = letters(17) },
			func(x *api.Row) { x.Value = "y" },
			func(x *api.Row) { x.Value = letters(17) },
		} {
			l = append(l, changed(whole, func(r *api.Reply) { set(&r.Rows[at]) }))
		}
	}
	return append(l,
		changed(whole, func(r *api.Reply) { r.Rows[0].Offset = -1 }),
		changed(whole, func(r *api.Reply) { r.Rows[1].Offset = 5 }),
		changed(whole, func(r *api.Reply) { r.Rows = r.Rows[:1] }),
		changed(whole, func(r *api.Reply) { r.Rows = r.Rows[1:] }),
		changed(whole, func(r *api.Reply) { r.Rows = nil }),
		changed(whole, func(r *api.Reply) { slices.Reverse(r.Rows) }),
		changed(whole, func(r *api.Reply) { r.Rows[0].Key, r.Rows[0].Value = "vv", "k" }),
		changed(whole, func(r *api.Reply) { r.Rows[0].Key, r.Rows[0].Value = "kv", "v" }),
		changed(whole, func(r *api.Reply) { r.Rows[0].Pid, r.Rows[0].Seq = 200, 3 }))
}

func TestSame(t *testing.T) { // P9.1
	l := apart()
	for i, a := range l {
		for j, b := range l {
			b = changed(b)
			if got := reply.Same(a, b); got != (i == j) {
				t.Errorf("Same(%s, %s) = %v", short(a), short(b), got)
			}
		}
	}
	for _, r := range append(bases(), longest()) {
		if !reply.Same(r, changed(r)) {
			t.Errorf("%s is not the same as itself", short(r))
		}
	}
}

// TestAlikeOfOffsets: replies that differ in offsets alone are alike, unless one has none where the other has one.
func TestAlikeOfOffsets(t *testing.T) { // P9.1
	offsets := []int{math.MinInt, -3, -2, -1, 0, 1, 7, 1 << 20, 1<<20 + 1, math.MaxInt}
	l := append(bases(), longest(), api.Reply{}, api.Reply{Kind: -7, E: -8, Pid: -9, Rows: make([]api.Row, 70)}, changed(base(api.RqFetch), func(r *api.Reply) { r.E = 401 }))
	for _, r := range l {
		for _, one := range offsets {
			for _, two := range offsets {
				want := (one == -1) == (two == -1)
				a := changed(r, func(r *api.Reply) { r.Offset = one })
				b := changed(r, func(r *api.Reply) { r.Offset = two })
				if got := reply.Alike(a, b); got != want {
					t.Fatalf("Alike(%s, %s) = %v", short(a), short(b), got)
				}
				for _, at := range []int{0, len(r.Rows) / 2, len(r.Rows) - 1} {
					if len(r.Rows) == 0 {
						continue
					}
					a := changed(r, func(r *api.Reply) { r.Rows[at].Offset = one })
					b := changed(r, func(r *api.Reply) { r.Rows[at].Offset = two })
					if got := reply.Alike(a, b); got != want {
						t.Fatalf("Alike(%s, %s) = %v", short(a), short(b), got)
					}
				}
			}
		}
	}
	a := api.Reply{Kind: api.RqFetch, Offset: 9, Rows: []api.Row{{Offset: 7, Pid: 1}, {Offset: -1, Pid: 2}, {Offset: 8, Pid: 3}}}
	b := api.Reply{Kind: api.RqFetch, Offset: 40, Rows: []api.Row{{Offset: 30, Pid: 1}, {Offset: -1, Pid: 2}, {Offset: 0, Pid: 3}}}
	if !reply.Alike(a, b) || reply.Same(a, b) {
		t.Error("all offsets differ, and there are as many")
	}
	b.Rows[0].Offset, b.Rows[1].Offset = -1, 30
	if reply.Alike(a, b) || reply.Alike(b, a) {
		t.Error("another row has none")
	}
}

// TestAlikeOfOtherFields: a difference in any other field, and replies are not alike.
func TestAlikeOfOtherFields(t *testing.T) { // P9.1
	sets := []change{
		func(r *api.Reply) { r.Kind++ },
		func(r *api.Reply) { r.Kind -= 20 },
		func(r *api.Reply) { r.E++ },
		func(r *api.Reply) { r.E -= 500 },
		func(r *api.Reply) { r.Pid++ },
		func(r *api.Reply) { r.Pid -= 1 << 40 },
		func(r *api.Reply) { r.Epoch++ },
		func(r *api.Reply) { r.Epoch -= 1 << 40 },
		func(r *api.Reply) { r.Rows = append(r.Rows, api.Row{}) },
		func(r *api.Reply) { r.Rows = append(r.Rows, full()) },
		func(r *api.Reply) { r.Rows = append([]api.Row{least()}, r.Rows...) },
	}
	rowSets := []rowChange{
		func(x *api.Row) { x.Pid++ },
		func(x *api.Row) { x.Seq++ },
		func(x *api.Row) { x.Seq -= 1 << 40 },
		func(x *api.Row) { x.Key += "a" },
		func(x *api.Row) { x.Value += "\x00" },
		func(x *api.Row) { x.Key, x.Value = x.Key+"b", "c"+x.Value },
	}
	other := func(r *api.Reply) { // in offsets alone
		r.Offset = max(r.Offset, r.Offset+1)
		for i := range r.Rows {
			if r.Rows[i].Offset != -1 {
				r.Rows[i].Offset += 5
			}
		}
	}
	for _, r := range append(bases(), longest(), api.Reply{Kind: -7, Pid: 99, Offset: 3}) {
		if r.Offset == -1 {
			continue
		}
		l := slices.Clone(sets)
		for at := range r.Rows {
			for _, set := range rowSets {
				l = append(l, func(r *api.Reply) { set(&r.Rows[at]) })
			}
		}
		if len(r.Rows) > 0 {
			l = append(l, func(r *api.Reply) { r.Rows = r.Rows[1:] }, func(r *api.Reply) { r.Rows = r.Rows[:len(r.Rows)-1] }, func(r *api.Reply) { r.Rows = nil })
		}
		if !reply.Alike(r, changed(r, other)) || reply.Same(r, changed(r, other)) {
			t.Errorf("%s is not alike to itself with other offsets", short(r))
		}
		for i, set := range l {
			for _, b := range []api.Reply{changed(r, set), changed(r, other, set)} {
				if reply.Alike(r, b) || reply.Alike(b, r) {
					t.Fatalf("%d: Alike(%s, %s) = true", i, short(r), short(b))
				}
			}
		}
	}
}

// littleApart returns replies of which many are alike, and few are equal.
func littleApart() []api.Reply {
	l := apart()
	offsets := []int{-2, -1, 0, 5}
	for _, pid := range []int{1, 2} {
		for _, n := range offsets {
			for _, m := range offsets {
				rows := []api.Row{{Offset: m, Pid: pid, Key: "k"}}
				l = append(l, api.Reply{Kind: api.RqFetch, Offset: n, Rows: rows},
					api.Reply{Kind: api.RqFetch, Offset: n, Pid: pid, Rows: append(rows, api.Row{Offset: n, Seq: 1})})
			}
			l = append(l, api.Reply{Kind: api.RqRead, Offset: n}, api.Reply{Kind: api.RqProduce, Offset: n, Epoch: pid})
		}
	}
	return l
}

func TestAlikeIsSymmetricAndTransitive(t *testing.T) { // P9.1, P9.3
	l := littleApart()
	isAlike := make([][]bool, len(l))
	count := 0
	for i, a := range l {
		for _, b := range l {
			got := reply.Alike(a, b)
			if got != alike(a, b) {
				t.Fatalf("Alike(%s, %s) = %v", short(a), short(b), got)
			}
			if got != reply.Alike(b, a) {
				t.Fatalf("Alike(%s, %s) = %v, but not the other way round", short(a), short(b), got)
			}
			if reply.Same(a, b) && !got {
				t.Fatalf("%s and %s are the same, but not alike", short(a), short(b))
			}
			if got && !reply.Same(a, b) {
				count++
			}
			isAlike[i] = append(isAlike[i], got)
		}
	}
	for i := range l {
		for j := range l {
			for k := range l {
				if isAlike[i][j] && isAlike[j][k] && !isAlike[i][k] {
					t.Fatalf("%s, %s and %s: the first and the last are not alike", short(l[i]), short(l[j]), short(l[k]))
				}
			}
		}
	}
	if count < 200 {
		t.Errorf("only %d pairs are alike and not the same", count)
	}
}

func TestNilAndEmptyAreTheSame(t *testing.T) { // P9.1, P9.2, R1
	for _, r := range append(bases(), api.Reply{Kind: -1}, api.Reply{Kind: api.RqEnd, E: 401}) {
		x := changed(r, func(r *api.Reply) { r.Rows = nil })
		for _, list := range [][]api.Row{{}, make([]api.Row, 0, 9)} {
			y := changed(r, func(r *api.Reply) { r.Rows = list })
			if !reply.Same(x, y) || !reply.Same(y, x) || !reply.Alike(x, y) || !reply.Alike(y, x) {
				t.Errorf("a nil list and an empty one are apart in %s", short(r))
			}
			one, e := reply.Bytes(x)
			two, f := reply.Bytes(y)
			if reply.May(x) != reply.May(y) || string(one) != string(two) || e != f {
				t.Errorf("%s hangs on whether a list is nil", short(r))
			}
			wantValid(t, y, valid(x))
		}
	}
	wantNone(t, "")
	if r, e := reply.Read(nil); e != api.ErrCode || !isEmpty(r) {
		t.Errorf("Read(nil) = %s, %v", short(r), e)
	}
}

// examples returns bytes and the replies that they are.
func examples() map[string]api.Reply {
	return map[string]api.Reply{
		"\x01\x00\x03\x02":     {Kind: api.RqInit, Pid: 3, Epoch: 2}, // the chapter's
		"\x00\x00\x01":         {Pid: 1},
		"\x00\x00\x08":         {Pid: 8},
		"\x01\x00\x05\x32":     base(api.RqInit),
		"\x01\x00\x08\x64":     {Kind: api.RqInit, Pid: 8, Epoch: 100},
		"\x02\x00\x00":         {Kind: api.RqProduce, Offset: -1},
		"\x02\x00\x01":         {Kind: api.RqProduce},
		"\x02\x00\xad\x02":     {Kind: api.RqProduce, Offset: 300},
		"\x02\x00\x81\x80\x40": {Kind: api.RqProduce, Offset: 1 << 20},
		"\x03\x00":             {Kind: api.RqOffsets},
		"\x04\x00":             {Kind: api.RqEnd},
		"\x05\x00\x00\x00":     {Kind: api.RqFetch},
		"\x05\x00\xac\x02\x00": {Kind: api.RqFetch, Offset: 300},
		"\x05\x00\x80\x80\x40\x01\x81\x80\x40\x08\xff\xff\x3f\x02kk\x03vvv": {Kind: api.RqFetch, Offset: 1 << 20, Rows: []api.Row{{Offset: 1 << 20, Pid: 8, Seq: 1<<20 - 1, Key: "kk", Value: "vvv"}}},
		"\x05\x00\x09\x02\x08\x01\x00\x01k\x01v\x00\x02\x04\x00\x00":        {Kind: api.RqFetch, Offset: 9, Rows: []api.Row{{Offset: 7, Pid: 1, Key: "k", Value: "v"}, {Offset: -1, Pid: 2, Seq: 4}}},
		"\x06\x00":         {Kind: api.RqCommit},
		"\x07\x00\x00":     {Kind: api.RqRead, Offset: -1},
		"\x07\x00\xad\x02": {Kind: api.RqRead, Offset: 300},
		"\x08\x00":         {Kind: api.RqCut},
		"\x09\x00":         {Kind: api.RqTick},
		"\x00\x01":         {E: 1}, // a number without a name
		"\x05\x82\x01":     {Kind: api.RqFetch, E: api.ErrOffset},
		"\x02\x1f":         {Kind: api.RqProduce, E: api.ErrFull},
		"\x09\x90\x03":     {Kind: api.RqTick, E: 400},
	}
}

func TestBytesAndReadOfTheExamples(t *testing.T) { // P9.2
	for want, r := range examples() {
		if b, e := reply.Bytes(r); e != api.OK || string(b) != want {
			t.Errorf("Bytes(%s) = % x, %v; want % x", short(r), b, e, want)
		}
		if got, e := reply.Read([]byte(want)); e != api.OK || !equal(got, r) {
			t.Errorf("Read(% x) = %s, %v", want, short(got), e)
		}
	}
}

func TestReadOfBytes(t *testing.T) { // P9.2
	for _, r := range valids() {
		if got, e := reply.Read([]byte(written(r))); e != api.OK || !equal(got, r) {
			t.Fatalf("Read of the bytes of %s = %s, %v", short(r), short(got), e)
		}
	}
}

// TestReadOfWhatIsNotValid: what would be the bytes of a reply if it were valid.
func TestReadOfWhatIsNotValid(t *testing.T) { // P9.2
	count := map[int8]int{}
	for _, r := range all() {
		if !isWritable(r) {
			continue
		}
		wantRead(t, written(r))
		if _, ok := taken(written(r)); !ok {
			wantNone(t, written(r))
			count[r.Kind]++
		}
	}
	for kind := range int8(10) {
		want := 9 // errors alone
		if len(fieldsOf(kind)) > 0 {
			want = 40
		}
		if count[kind] < want {
			t.Errorf("%d replies of kind %d that are not valid were read", count[kind], kind)
		}
	}
}

func TestReadOfEachBeginning(t *testing.T) { // P9.2
	for _, r := range append(bases(), longest()) {
		s := written(r)
		for size := range len(s) {
			wantNone(t, s[:size])
		}
	}
}

func TestReadWithMoreBehind(t *testing.T) { // P9.2
	for _, r := range append(bases(), longest()) {
		s := written(r)
		for c := range 256 {
			wantNone(t, s+string([]byte{byte(c)}))
		}
		for _, more := range []string{s, "\x00\x00", "\x80\x80\x80\x80\x80\x80\x80", strings.Repeat("\x00", 1<<20)} {
			wantNone(t, s+more)
		}
	}
}

// TestReadOfChangedBytes: each byte is changed to each other one, taken away, or doubled; one is put before it.
func TestReadOfChangedBytes(t *testing.T) { // P9.2, P9.3
	for _, r := range bases() {
		s := written(r)
		for at := range min(len(s), 70) {
			for c := range 256 {
				one := string([]byte{byte(c)})
				wantRead(t, s[:at]+one+s[at+1:])
				wantRead(t, s[:at]+one+s[at:])
				if got, e := reply.Read([]byte(s[:at] + one + s[at+1:])); e == api.OK && equal(got, r) != (one == s[at:at+1]) {
					t.Fatalf("byte %d of % x is %x: Read = %s", at, s, c, short(got))
				}
			}
			wantRead(t, s[:at]+s[at+1:])
		}
	}
	s := written(longest())
	for at := range len(s) {
		for _, one := range []string{"", "\x00", "\x11", "\x80", s[at:at+1] + s[at:at+1]} {
			wantRead(t, s[:at]+one+s[at+1:])
		}
	}
}

func TestReadOfKindsThatAreNone(t *testing.T) { // P9.2
	for _, r := range bases() {
		rest := written(r)[1:]
		for kind := 10; kind < 300; kind++ {
			wantNone(t, number(kind)+rest)
		}
		for _, bits := range []int{8, 16, 32, 39} {
			wantNone(t, number(1<<bits+int(r.Kind))+rest) // in fewer bits it would be the kind
		}
	}
	for kind := range 256 {
		for e := range 256 {
			wantRead(t, string([]byte{byte(kind), byte(e)}))
		}
	}
}

// TestReadOfErrors: an error past the greatest one, and fields behind an error.
func TestReadOfErrors(t *testing.T) { // P9.2
	for kind := range int8(10) {
		head, rest := number(int(kind)), written(base(kind))[2:]
		for e := 1; e < 1000; e++ {
			if r, err := reply.Read([]byte(head + number(e))); (err == api.OK) != (e <= 400) || err == api.OK && !equal(r, api.Reply{Kind: kind, E: api.Errno(e)}) {
				t.Errorf("Read of kind %d with the error %d = %s, %v", kind, e, short(r), err)
			}
			if rest != "" || e > 400 {
				wantNone(t, head+number(e)+rest)
			}
		}
		for _, bits := range []int{9, 16, 32, 39, 40} {
			wantNone(t, head+number(1<<bits))
			wantNone(t, head+number(1<<bits)+rest)
			wantNone(t, head+number(1<<bits+1))
		}
		wantNone(t, head+number(1<<40+1))
		wantNone(t, head)
	}
}

// TestReadOfNumbersInMoreBytes: each number of a reply with some bytes more than it needs, or with a bit that would be
// shifted out.
func TestReadOfNumbersInMoreBytes(t *testing.T) { // P9.2
	for _, r := range append(bases(), longest()) {
		l := pieces(r)
		for i, x := range l {
			if !x.isNumber {
				continue
			}
			last := len(x.b) - 1
			for _, more := range []string{"\x00", "\x80\x00", "\x80\x80\x80\x80\x80\x80\x80\x00", strings.Repeat("\x80", 8-last) + "\x02"} {
				long := x.b[:last] + string([]byte{x.b[last] + 128}) + more
				wantNone(t, joined(l[:i])+long+joined(l[i+1:]))
			}
		}
	}
	for _, s := range []string{"\x89\x00\x00", "\x09\x80\x00", "\x09\x81\x00", "\x00\x00\x81\x00", "\x02\x00\x80\x00", "\x05\x00\x00\x80\x00"} {
		wantNone(t, s)
	}
}

// TestReadOfNumbersOutsideTheirRange: each number of a reply at the bounds of all ranges and past them.
func TestReadOfNumbersOutsideTheirRange(t *testing.T) { // P9.2
	for _, r := range append(bases(), longest()) {
		l := pieces(r)
		for i, x := range l {
			if !x.isNumber || i > 40 {
				continue
			}
			for _, n := range numbers() {
				if n >= 0 {
					wantRead(t, joined(l[:i])+number(n)+joined(l[i+1:]))
				}
			}
		}
	}
}

// TestReadOfRows: fewer and more of them than their number says, and too many.
func TestReadOfRows(t *testing.T) { // P9.2
	row := joined(rowPieces(full()))
	for said := range 70 {
		for n := range 70 {
			s := "\x05\x00\x07" + number(said) + strings.Repeat(row, n)
			r, e := reply.Read([]byte(s))
			if said != n || n > 64 {
				wantNone(t, s)
			} else if e != api.OK || !equal(r, api.Reply{Kind: api.RqFetch, Offset: 7, Rows: slices.Repeat([]api.Row{full()}, n)}) {
				t.Errorf("Read of %d rows = %s, %v", n, short(r), e)
			}
		}
	}
	for _, said := range []int{65, 128, 256, 1 << 16, 1 << 31, 1 << 32, 1<<32 + 2, 1<<40 - 1, 1 << 40, 1<<40 + 1} {
		for _, n := range []int{0, 1, 2, 65, 256} {
			wantNone(t, "\x05\x00\x07"+number(said)+strings.Repeat(row, n))
		}
	}
}

// TestReadOfWrongRows: one field of a row that no row may have.
func TestReadOfWrongRows(t *testing.T) { // P9.2
	for i, x := range []struct {
		s    string
		want bool
	}{
		{"\x00\x01\x00\x00\x00", true},
		{"\x81\x80\x40\x01\x00\x00\x00", true},
		{"\x82\x80\x40\x01\x00\x00\x00", false}, // the offset
		{"\x00\x00\x00\x00\x00", false},         // the pid
		{"\x00\x08\x00\x00\x00", true},
		{"\x00\x09\x00\x00\x00", false},
		{"\x00\x01\xff\xff\x3f\x00\x00", true},
		{"\x00\x01\x80\x80\x40\x00\x00", false}, // the sequence
		{"\x00\x01\x00\x10" + letters(16) + "\x00", true},
		{"\x00\x01\x00\x11" + letters(17) + "\x00", false}, // the key
		{"\x00\x01\x00\x10" + letters(17) + "\x00", false},
		{"\x00\x01\x00\x00\x10" + letters(16), true},
		{"\x00\x01\x00\x00\x11" + letters(17), false}, // the value
		{"\x00\x01\x00\x00\x11" + letters(16), false},
		{"\x00\x01\x00" + number(1024) + letters(1024) + "\x00", false},
		{"\x00\x01\x00" + number(1025) + letters(1025) + "\x00", false},
		{"\x00\x01\x00\x01\x00\x00", true},
		{"\x00\x01\x00\x01\x00", false},
		{"\x00\x01\x00\x00", false},
	} {
		good := "\x08\x02\x03\x01k\x01v"
		for _, s := range []string{"\x01" + x.s, "\x02" + good + x.s, "\x02" + x.s + good, "\x03" + good + x.s + good} {
			s = "\x05\x00\x07" + s
			if _, e := reply.Read([]byte(s)); (e == api.OK) != x.want {
				t.Errorf("%d: Read(% .60x): %v", i, s, e)
			}
			wantRead(t, s)
		}
	}
}

// TestReadOfAllShortStrings: all strings of up to seven bytes of some that make replies.
func TestReadOfAllShortStrings(t *testing.T) { // P9.2, P9.3
	count := map[int8]int{}
	var each func(s, alphabet string, left int)
	each = func(s, alphabet string, left int) {
		want, ok := taken(s)
		r, e := reply.Read([]byte(s))
		if ok != (e == api.OK) || !ok && e != api.ErrCode || !equal(r, want) {
			t.Fatalf("Read(% x) = %s, %v; want %s", s, short(r), e, short(want))
		}
		if ok {
			count[r.Kind]++
			if back, e := reply.Bytes(r); e != api.OK || string(back) != s {
				t.Fatalf("Read(% x) = %s, but its Bytes are % x, %v", s, short(r), back, e)
			}
		}
		if left == 0 {
			return
		}
		for i := range len(alphabet) {
			each(s+alphabet[i:i+1], alphabet, left-1)
		}
	}
	each("", "\x00\x01\x02\x03\x04\x05\x06\x07\x08\x09\x80", 5)
	each("\x05\x00", "\x00\x01\x02\x80", 8) // the one kind with rows
	for kind, want := range []int{14, 50, 8, 4, 4, 20, 4, 8, 4, 4} {
		if count[int8(kind)] < want {
			t.Errorf("%d strings are replies of kind %d", count[int8(kind)], kind)
		}
	}
}

func TestReadOfBytesAndBytesOfRead(t *testing.T) { // P9.3
	seen := map[string]api.Reply{}
	for _, r := range valids() {
		b, e := reply.Bytes(r)
		if e != api.OK {
			t.Fatalf("Bytes(%s) = % x, %v", short(r), b, e)
		}
		back, e := reply.Read(b)
		if e != api.OK || !equal(back, r) || !reply.Same(back, r) || !reply.Alike(back, r) || !reply.May(back) {
			t.Fatalf("Read(Bytes(%s)) = %s, %v", short(r), short(back), e)
		}
		again, e := reply.Bytes(back)
		if e != api.OK || !bytes.Equal(again, b) {
			t.Fatalf("Bytes(Read(% x)) = % x, %v", b, again, e)
		}
		if other, ok := seen[string(b)]; ok && !reply.Same(other, r) {
			t.Fatalf("%s and %s have the same bytes", short(other), short(r))
		}
		seen[string(b)] = r
	}
}

// randomReply returns a reply that is valid.
func randomReply(x *rand.Rand) api.Reply {
	r := api.Reply{Kind: int8(x.Intn(10))}
	if x.Intn(4) == 0 {
		r.E = api.Errno(1 + x.Intn(400))
		return r
	}
	if has(r.Kind, "Pid") {
		r.Pid = 1 + x.Intn(8)
	}
	if has(r.Kind, "Epoch") {
		r.Epoch = x.Intn(101)
	}
	if has(r.Kind, "Offset") {
		r.Offset = x.Intn(1<<x.Intn(21) + 1)
		if r.Kind != api.RqFetch && x.Intn(4) == 0 {
			r.Offset = -1
		}
	}
	if has(r.Kind, "Rows") {
		for range x.Intn(1 << x.Intn(7)) {
			r.Rows = append(r.Rows, api.Row{Offset: x.Intn(1<<x.Intn(21)+2) - 1, Pid: 1 + x.Intn(8), Seq: x.Intn(1 << x.Intn(21)), Key: letters(x.Intn(17)), Value: letters(x.Intn(17))})
		}
	}
	return r
}

// TestOfRandomReplies: replies by chance, and what some changed bytes make of them.
func TestOfRandomReplies(t *testing.T) { // P9.1, P9.2, P9.3
	x := rand.New(rand.NewSource(9))
	last := api.Reply{}
	for range 30000 {
		r := randomReply(x)
		wantValid(t, r, true)
		if reply.Same(r, last) != equal(r, last) || reply.Alike(r, last) != alike(r, last) {
			t.Fatalf("Same or Alike of %s and %s", short(r), short(last))
		}
		last = r
		s := []byte(written(r))
		wantRead(t, string(s))
		for range 1 + x.Intn(3) {
			s[x.Intn(len(s))] = byte(x.Intn(256) >> x.Intn(8))
		}
		wantRead(t, string(s))
		if back, e := reply.Read(s); e == api.OK {
			if again, e := reply.Bytes(back); e != api.OK || !bytes.Equal(again, s) {
				t.Fatalf("Bytes(Read(% x)) = % x, %v", s, again, e)
			}
		}
	}
}

// TestReadOfAnyBytes: any bytes are a reply or ErrCode, and nothing else.
func TestReadOfAnyBytes(t *testing.T) { // P9.3, R1
	x := rand.New(rand.NewSource(10))
	for range 200000 {
		s := make([]byte, x.Intn(40))
		for i := range s {
			s[i] = byte(x.Intn(256) >> x.Intn(9))
		}
		if x.Intn(2) == 0 {
			s = append([]byte{5, 0, 7}, s...)
		}
		wantRead(t, string(s))
	}
}

// TestRepliesStay: no call changes the list that it is given, or what is behind it.
func TestRepliesStay(t *testing.T) { // R4
	for _, r := range append(bases(), api.Reply{Kind: 99, Rows: []api.Row{full()}}, api.Reply{Kind: api.RqTick, Rows: []api.Row{full()}}) {
		rows := slices.Repeat([]api.Row{{Offset: -5, Pid: 77, Key: "spare", Value: "room"}}, 80)
		copy(rows, r.Rows)
		x := r
		x.Rows = rows[:len(r.Rows)]
		were := slices.Clone(rows)
		reply.May(x)
		reply.Bytes(x)
		reply.Same(x, r)
		reply.Same(r, x)
		reply.Alike(x, r)
		reply.Alike(r, x)
		if !slices.Equal(rows, were) {
			t.Errorf("%s has changed", short(r))
		}
	}
}

// TestBytesStay: Read changes neither the bytes that it is given nor what is behind them, and keeps none of them.
func TestBytesStay(t *testing.T) { // R4
	inputs := []string{"", "\x0a", "\x01\x00\x09", "\x05\x00\x01\x01\x00\x01\x00\x02"}
	for _, r := range append(bases(), longest()) {
		inputs = append(inputs, written(r), written(r)+"\x00")
	}
	for _, s := range inputs {
		whole := append([]byte(s), "spare room"...)
		r, e := reply.Read(whole[:len(s)])
		if string(whole) != s+"spare room" {
			t.Errorf("Read(% x) changed its argument", s)
		}
		for i := range whole {
			whole[i] = 0x55
		}
		want, ok := taken(s)
		if ok != (e == api.OK) || !equal(r, want) {
			t.Errorf("Read(% x) keeps its argument: %s, %v", s, short(r), e)
		}
	}
}

// TestResultsAreNew: what is made of one result changes no other one, and no argument.
func TestResultsAreNew(t *testing.T) { // R4
	for _, r := range append(bases(), longest()) {
		s := written(r)
		one, _ := reply.Bytes(r)
		two, _ := reply.Bytes(r)
		for i := range one[:cap(one)] {
			one[:cap(one)][i] = 0x55
		}
		if three, _ := reply.Bytes(r); string(two) != s || string(three) != s {
			t.Errorf("bytes share memory: % x", two)
		}
		first, _ := reply.Read([]byte(s))
		second, _ := reply.Read([]byte(s))
		for i := range first.Rows[:cap(first.Rows)] {
			first.Rows[:cap(first.Rows)][i] = api.Row{Pid: 99, Key: "spoilt"}
		}
		if third, _ := reply.Read([]byte(s)); !equal(second, r) || !equal(third, r) {
			t.Errorf("replies share memory: %s", short(second))
		}
	}
}

// TestOfLongArguments: lists and texts that are far too long, and bytes.
func TestOfLongArguments(t *testing.T) { // R1
	for _, rows := range [][]api.Row{make([]api.Row, 1<<17), slices.Repeat([]api.Row{full()}, 1<<16), {{Pid: 1, Key: strings.Repeat("a", 1<<20)}}} {
		for kind := int8(-1); kind <= 10; kind++ {
			for _, e := range []api.Errno{api.OK, api.ErrArg} {
				r := api.Reply{Kind: kind, E: e, Rows: rows}
				wantValid(t, r, false)
				if !reply.Same(r, r) || !reply.Alike(r, r) || reply.Same(r, api.Reply{Kind: kind}) || reply.Alike(api.Reply{Kind: kind}, r) {
					t.Error("Same or Alike of long replies")
				}
			}
		}
	}
	for _, c := range []string{"\x00", "\x01", "\x02", "\x05", "\x80", "\xff"} {
		wantNone(t, strings.Repeat(c, 1<<22))
		wantNone(t, "\x05\x00"+strings.Repeat(c, 1<<22))
	}
}
