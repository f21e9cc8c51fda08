package entry_test

import (
	"math"
	"math/rand"
	"slices"
	"strings"
	"testing"

	"roving/api"
	"roving/entry"
)

func kv(key, value string) api.Record { return api.Record{Key: key, Value: value} }

// batch returns a valid batch with Txn in which each field is another value.
func batch() api.Batch {
	return api.Batch{Pid: 3, Epoch: 7, Seq: 300, Txn: true, Records: []api.Record{kv("k", "vv"), kv("", "www")}}
}

// prod returns a valid producer that has seen n batches, with sequences between them that were not.
func prod(n int) api.Prod {
	p := api.Prod{Pid: 4, Epoch: 9, Next: 1000}
	for i := range n {
		p.Seen = append(p.Seen, api.Seen{Seq: 200 + 10*i, Count: 1 + i, Base: 40*i - 1})
	}
	return p
}

// bases returns valid entries: for each kind one at the place of its number, and some more behind them.
func bases() []api.Entry {
	plain := batch()
	plain.Txn = false
	return []api.Entry{
		{Kind: api.EnData, B: batch()},
		{Kind: api.EnMark, B: api.Batch{Pid: 5, Epoch: 6}, Yes: true},
		{Kind: api.EnCut, Offset: 300},
		{Kind: api.EnCopy, B: batch(), Yes: true, Next: 400},
		{Kind: api.EnDrop, B: api.Batch{Pid: 6, Epoch: 50}, Next: 500},
		{Kind: api.EnRow, Row: api.Row{Pid: 7, Seq: 600, Key: "key", Value: "value"}},
		{Kind: api.EnState, Prod: prod(3)},

		{Kind: api.EnData, B: plain},
		{Kind: api.EnMark, B: api.Batch{Pid: 5, Epoch: 6}},
		{Kind: api.EnCut},
		{Kind: api.EnCopy, B: batch()},
		{Kind: api.EnCopy, B: batch(), Yes: true},
		{Kind: api.EnDrop, B: api.Batch{Pid: 1}},
		{Kind: api.EnRow, Row: api.Row{Pid: 1}},
		{Kind: api.EnState, Prod: prod(0)},
		{Kind: api.EnState, Prod: prod(1)},
		{Kind: api.EnState, Prod: prod(2)},
	}
}

// changed returns an entry after a change; it shares no list with the one that was given.
func changed(x api.Entry, change func(x *api.Entry)) api.Entry {
	x.B.Records = slices.Clone(x.B.Records)
	x.Prod.Seen = slices.Clone(x.Prod.Seen)
	change(&x)
	return x
}

// numbers returns numbers around each bound, and extreme ones.
func numbers() []int {
	return []int{math.MinInt, math.MinInt + 1, -1 << 40, -301, -2, -1, 0, 1, 2, 3, 4, 5, 7, 8, 9, 99, 100, 101, 127, 128, 300, 301,
		1<<20 - 3, 1<<20 - 2, 1<<20 - 1, 1 << 20, 1<<20 + 1, 1<<20 + 2, 1 << 40, 1<<40 + 1, math.MaxInt - 1, math.MaxInt}
}

// places returns, for each number in an entry, a function that tells where it is; those of lists that are too short are left out.
func places(x api.Entry) []func(x *api.Entry) *int {
	l := []func(x *api.Entry) *int{
		func(x *api.Entry) *int { return &x.B.Pid },
		func(x *api.Entry) *int { return &x.B.Epoch },
		func(x *api.Entry) *int { return &x.B.Seq },
		func(x *api.Entry) *int { return &x.Next },
		func(x *api.Entry) *int { return &x.Offset },
		func(x *api.Entry) *int { return &x.Row.Offset },
		func(x *api.Entry) *int { return &x.Row.Pid },
		func(x *api.Entry) *int { return &x.Row.Seq },
		func(x *api.Entry) *int { return &x.Prod.Pid },
		func(x *api.Entry) *int { return &x.Prod.Epoch },
		func(x *api.Entry) *int { return &x.Prod.Next },
	}
	for i := range x.Prod.Seen {
		l = append(l,
			func(x *api.Entry) *int { return &x.Prod.Seen[i].Seq },
			func(x *api.Entry) *int { return &x.Prod.Seen[i].Count },
			func(x *api.Entry) *int { return &x.Prod.Seen[i].Base })
	}
	return l
}

// words returns, for each text in an entry, a function that tells where it is.
func words(x api.Entry) []func(x *api.Entry) *string {
	l := []func(x *api.Entry) *string{
		func(x *api.Entry) *string { return &x.Row.Key },
		func(x *api.Entry) *string { return &x.Row.Value },
	}
	for i := range x.B.Records {
		l = append(l,
			func(x *api.Entry) *string { return &x.B.Records[i].Key },
			func(x *api.Entry) *string { return &x.B.Records[i].Value })
	}
	return l
}

// changes returns what can be changed in an entry: each field alone.
func changes(x api.Entry) []func(x *api.Entry) {
	l := []func(x *api.Entry){
		func(x *api.Entry) { x.B.Txn = !x.B.Txn },
		func(x *api.Entry) { x.Yes = !x.Yes },
		func(x *api.Entry) { x.B.Records = nil },
		func(x *api.Entry) { x.B.Records = []api.Record{} },
		func(x *api.Entry) { x.Prod.Seen = nil },
		func(x *api.Entry) { x.Prod.Seen = []api.Seen{} },
	}
	for kind := -128; kind <= 127; kind++ {
		l = append(l, func(x *api.Entry) { x.Kind = int8(kind) })
	}
	for n := 1; n <= 5; n++ {
		l = append(l,
			func(x *api.Entry) { x.B.Records = make([]api.Record, n) },
			func(x *api.Entry) { x.Prod.Seen = make([]api.Seen, n) },
			func(x *api.Entry) { x.Prod.Seen = prod(n).Seen })
	}
	for _, place := range places(x) {
		for _, n := range numbers() {
			l = append(l, func(x *api.Entry) { *place(x) = n })
		}
	}
	for _, place := range words(x) {
		for _, size := range []int{0, 1, 15, 16, 17, 18, 300, 1024, 1025} {
			l = append(l, func(x *api.Entry) { *place(x) = letters(size) })
		}
	}
	return l
}

// entries returns many entries: valid ones, each with each change; some of these are valid.
func entries() []api.Entry {
	l := bases()
	for _, x := range bases() {
		for _, change := range changes(x) {
			l = append(l, changed(x, change))
		}
	}
	return append(l, api.Entry{}, api.Entry{Kind: 7}, api.Entry{Kind: -1}, api.Entry{Kind: math.MaxInt8}, api.Entry{Kind: math.MinInt8})
}

// twice returns valid entries, each with each two changes of numbers.
func twice() []api.Entry {
	few := []int{math.MinInt, math.MinInt + 2, -1, 0, 1, 4, 5, 210, 300, 1<<20 - 4, 1<<20 - 1, 1 << 20, 1<<20 + 1, math.MaxInt - 1, math.MaxInt}
	var l []api.Entry
	for _, x := range bases() {
		at := places(x)
		for i := range at {
			for j := range i {
				for _, n := range few {
					for _, m := range few {
						l = append(l, changed(x, func(x *api.Entry) { *at[i](x), *at[j](x) = n, m }))
					}
				}
			}
		}
	}
	return l
}

// valids returns the valid ones among these entries.
func valids() []api.Entry {
	return slices.DeleteFunc(slices.Concat(entries(), twice()), func(x api.Entry) bool { return !valid(x) })
}

// isWritable tells whether all numbers of an entry are at least 0, as in bytes.
func isWritable(x api.Entry) bool {
	for _, place := range places(x) {
		if *place(&x) < 0 {
			return false
		}
	}
	for _, s := range x.Prod.Seen {
		if s.Base == math.MaxInt {
			return false
		}
	}
	return x.Kind >= 0
}

func TestKnownAtEachBound(t *testing.T) { // P7.1
	with := func(change func(p *api.Prod)) api.Prod {
		p := prod(3) // 200 1, 210 2, 220 3; next is 1000
		change(&p)
		return p
	}
	for i, x := range []struct {
		p    api.Prod
		want bool
	}{
		{api.Prod{}, false},
		{api.Prod{Pid: 1}, true},
		{prod(0), true}, {prod(1), true}, {prod(2), true}, {prod(3), true}, {prod(4), false}, {prod(5), false},
		{with(func(p *api.Prod) { p.Pid = -1 }), false},
		{with(func(p *api.Prod) { p.Pid = 0 }), false},
		{with(func(p *api.Prod) { p.Pid = 1 }), true},
		{with(func(p *api.Prod) { p.Pid = 8 }), true},
		{with(func(p *api.Prod) { p.Pid = 9 }), false},
		{with(func(p *api.Prod) { p.Epoch = -1 }), false},
		{with(func(p *api.Prod) { p.Epoch = 0 }), true},
		{with(func(p *api.Prod) { p.Epoch = 100 }), true},
		{with(func(p *api.Prod) { p.Epoch = 101 }), false},
		{api.Prod{Pid: 1, Next: -1}, false},
		{api.Prod{Pid: 1, Next: 0}, true},
		{api.Prod{Pid: 1, Next: 1 << 20}, true},
		{api.Prod{Pid: 1, Next: 1<<20 + 1}, false},
		{with(func(p *api.Prod) { p.Next = 1 << 20 }), true},
		{with(func(p *api.Prod) { p.Next = 1<<20 + 1 }), false},
		{with(func(p *api.Prod) { p.Next = math.MinInt }), false},
		{with(func(p *api.Prod) { p.Next = 223 }), true},
		{with(func(p *api.Prod) { p.Next = 222 }), false},
		{with(func(p *api.Prod) { p.Next = 0 }), false},
		{with(func(p *api.Prod) { p.Seen[0].Seq = -1 }), false},
		{with(func(p *api.Prod) { p.Seen[0].Seq = 0 }), true},
		{with(func(p *api.Prod) { p.Seen[0].Seq = 209 }), true},
		{with(func(p *api.Prod) { p.Seen[0].Seq = 210 }), false},
		{with(func(p *api.Prod) { p.Seen[0].Seq = math.MaxInt }), false}, // its sum wraps around
		{with(func(p *api.Prod) { p.Seen[1].Seq = 201 }), true},
		{with(func(p *api.Prod) { p.Seen[1].Seq = 200 }), false},
		{with(func(p *api.Prod) { p.Seen[1].Seq = 0 }), false},
		{with(func(p *api.Prod) { p.Seen[1].Seq = -1 }), false},
		{with(func(p *api.Prod) { p.Seen[1].Seq = 218 }), true},
		{with(func(p *api.Prod) { p.Seen[1].Seq = 219 }), false},
		{with(func(p *api.Prod) { p.Seen[1].Seq = math.MaxInt - 1 }), false},
		{with(func(p *api.Prod) { p.Seen[2].Seq = 212 }), true},
		{with(func(p *api.Prod) { p.Seen[2].Seq = 211 }), false},
		{with(func(p *api.Prod) { p.Seen[2].Seq = 997 }), true},
		{with(func(p *api.Prod) { p.Seen[2].Seq = 998 }), false},
		{with(func(p *api.Prod) { p.Seen[2].Seq = math.MaxInt - 2 }), false},
		{with(func(p *api.Prod) { p.Seen[2].Seq = math.MinInt }), false},
		{with(func(p *api.Prod) { p.Seen[1].Seq, p.Seen[2].Seq = math.MaxInt, math.MinInt+1 }), false},
		{with(func(p *api.Prod) { p.Seen[0].Seq, p.Seen[0].Count, p.Seen[1].Seq = 0, 4, 4 }), true},
		{with(func(p *api.Prod) { p.Seen[0].Seq, p.Seen[0].Count, p.Seen[1].Seq = 0, 4, 3 }), false},
		{with(func(p *api.Prod) { p.Next, p.Seen[2].Seq, p.Seen[2].Count = 1<<20, 1<<20-4, 4 }), true},
		{with(func(p *api.Prod) { p.Next, p.Seen[2].Seq, p.Seen[2].Count = 1<<20, 1<<20-3, 4 }), false},
		{api.Prod{Pid: 1, Seen: []api.Seen{{Seq: math.MinInt, Count: 1}}}, false},
		{api.Prod{Pid: 1, Next: 1, Seen: []api.Seen{{Seq: 0, Count: 1}}}, true},
		{api.Prod{Pid: 1, Next: 0, Seen: []api.Seen{{Seq: 0, Count: 1}}}, false},
		{api.Prod{Pid: 1, Next: 2, Seen: []api.Seen{{Seq: 0, Count: math.MinInt}}}, false},
	} {
		if got := entry.Known(x.p); got != x.want {
			t.Errorf("%d: Known(%s) = %v", i, short(x.p), got)
		}
		if got := entry.May(api.Entry{Kind: api.EnState, Prod: x.p}); got != x.want {
			t.Errorf("%d: May of the state %s = %v", i, short(x.p), got)
		}
	}
	for at := range 3 {
		for count, want := range map[int]bool{math.MinInt: false, -1: false, 0: false, 1: true, 2: true, 3: true, 4: true, 5: false, math.MaxInt: false} {
			if p := with(func(p *api.Prod) { p.Seen[at].Count = count }); entry.Known(p) != want {
				t.Errorf("Known with a Count of %d at %d = %v", count, at, !want)
			}
		}
		for base, want := range map[int]bool{math.MinInt: false, -2: false, -1: true, 0: true, 1: true, 1 << 20: true, 1<<20 + 1: false, math.MaxInt: false} {
			if p := with(func(p *api.Prod) { p.Seen[at].Base = base }); entry.Known(p) != want {
				t.Errorf("Known with a Base of %d at %d = %v", base, at, !want)
			}
		}
	}
}

func TestKnownOfManyProducers(t *testing.T) { // P7.1
	count := 0
	for _, x := range slices.Concat(entries(), twice()) {
		if got := entry.Known(x.Prod); got != validProd(x.Prod) {
			t.Fatalf("Known(%s) = %v", short(x.Prod), got)
		}
		if validProd(x.Prod) {
			count++
		}
	}
	if count < 1000 {
		t.Errorf("%d producers are valid", count)
	}
}

func TestKnownOfManyThatWereSeen(t *testing.T) { // P7.1, R1
	for _, n := range []int{4, 100, 1 << 20} {
		if entry.Known(api.Prod{Pid: 1, Next: 1 << 20, Seen: make([]api.Seen, n)}) || entry.Known(prod(n)) {
			t.Errorf("%d batches seen", n)
		}
	}
}

func TestMayAtEachBound(t *testing.T) { // P7.1
	base := bases()
	set := func(kind int8, change func(x *api.Entry)) api.Entry { return changed(base[kind], change) }
	for i, x := range []struct {
		x    api.Entry
		want bool
	}{
		{api.Entry{Kind: -1}, false}, {api.Entry{Kind: 7}, false}, {api.Entry{Kind: 127}, false}, {api.Entry{Kind: -128}, false},
		{api.Entry{Kind: 7, B: batch()}, false}, {api.Entry{Kind: -1, B: batch()}, false},
		{set(api.EnData, func(x *api.Entry) { x.B.Seq = 1<<20 - 2 }), true},
		{set(api.EnData, func(x *api.Entry) { x.B.Seq = 1<<20 - 1 }), false},
		{set(api.EnData, func(x *api.Entry) { x.B.Txn = false }), true},
		{set(api.EnData, func(x *api.Entry) { x.B.Records[0].Key = letters(16) }), true},
		{set(api.EnData, func(x *api.Entry) { x.B.Records[0].Key = letters(17) }), false},
		{set(api.EnData, func(x *api.Entry) { x.B.Records = nil }), false},
		{set(api.EnMark, func(x *api.Entry) { x.B.Pid = 0 }), false},
		{set(api.EnMark, func(x *api.Entry) { x.B.Pid = 1 }), true},
		{set(api.EnMark, func(x *api.Entry) { x.B.Pid = 8 }), true},
		{set(api.EnMark, func(x *api.Entry) { x.B.Pid = 9 }), false},
		{set(api.EnMark, func(x *api.Entry) { x.B.Epoch = -1 }), false},
		{set(api.EnMark, func(x *api.Entry) { x.B.Epoch = 0 }), true},
		{set(api.EnMark, func(x *api.Entry) { x.B.Epoch = 100 }), true},
		{set(api.EnMark, func(x *api.Entry) { x.B.Epoch = 101 }), false},
		{set(api.EnMark, func(x *api.Entry) { x.Yes = false }), true},
		{set(api.EnMark, func(x *api.Entry) { x.B = batch() }), false},
		{set(api.EnCut, func(x *api.Entry) { x.Offset = -1 }), false},
		{set(api.EnCut, func(x *api.Entry) { x.Offset = 0 }), true},
		{set(api.EnCut, func(x *api.Entry) { x.Offset = 1 << 20 }), true},
		{set(api.EnCut, func(x *api.Entry) { x.Offset = 1<<20 + 1 }), false},
		{set(api.EnCopy, func(x *api.Entry) { x.B.Txn = false }), false},
		{set(api.EnCopy, func(x *api.Entry) { x.Yes = false }), false}, // it has a Next
		{set(api.EnCopy, func(x *api.Entry) { x.Yes, x.Next = false, 1 }), false},
		{set(api.EnCopy, func(x *api.Entry) { x.Yes, x.Next = false, -1 }), false},
		{set(api.EnCopy, func(x *api.Entry) { x.Yes, x.Next = false, 0 }), true},
		{set(api.EnCopy, func(x *api.Entry) { x.Yes, x.Next, x.B.Txn = false, 0, false }), false},
		{set(api.EnCopy, func(x *api.Entry) { x.Next = -1 }), false},
		{set(api.EnCopy, func(x *api.Entry) { x.Next = 0 }), true},
		{set(api.EnCopy, func(x *api.Entry) { x.Next = 1 << 20 }), true},
		{set(api.EnCopy, func(x *api.Entry) { x.Next = 1<<20 + 1 }), false},
		{set(api.EnCopy, func(x *api.Entry) { x.B.Pid = 9 }), false},
		{set(api.EnCopy, func(x *api.Entry) { x.B.Records = make([]api.Record, 5) }), false},
		{set(api.EnDrop, func(x *api.Entry) { x.B.Pid = 0 }), false},
		{set(api.EnDrop, func(x *api.Entry) { x.B.Pid = 1 }), true},
		{set(api.EnDrop, func(x *api.Entry) { x.B.Pid = 8 }), true},
		{set(api.EnDrop, func(x *api.Entry) { x.B.Pid = 9 }), false},
		{set(api.EnDrop, func(x *api.Entry) { x.B.Epoch = -1 }), false},
		{set(api.EnDrop, func(x *api.Entry) { x.B.Epoch = 100 }), true},
		{set(api.EnDrop, func(x *api.Entry) { x.B.Epoch = 101 }), false},
		{set(api.EnDrop, func(x *api.Entry) { x.Next = -1 }), false},
		{set(api.EnDrop, func(x *api.Entry) { x.Next = 0 }), true},
		{set(api.EnDrop, func(x *api.Entry) { x.Next = 1 << 20 }), true},
		{set(api.EnDrop, func(x *api.Entry) { x.Next = 1<<20 + 1 }), false},
		{set(api.EnDrop, func(x *api.Entry) { x.B.Records = make([]api.Record, 1) }), false},
		{set(api.EnRow, func(x *api.Entry) { x.Row.Pid = 0 }), false},
		{set(api.EnRow, func(x *api.Entry) { x.Row.Pid = 1 }), true},
		{set(api.EnRow, func(x *api.Entry) { x.Row.Pid = 8 }), true},
		{set(api.EnRow, func(x *api.Entry) { x.Row.Pid = 9 }), false},
		{set(api.EnRow, func(x *api.Entry) { x.Row.Seq = -1 }), false},
		{set(api.EnRow, func(x *api.Entry) { x.Row.Seq = 0 }), true},
		{set(api.EnRow, func(x *api.Entry) { x.Row.Seq = 1<<20 - 1 }), true},
		{set(api.EnRow, func(x *api.Entry) { x.Row.Seq = 1 << 20 }), false},
		{set(api.EnRow, func(x *api.Entry) { x.Row.Offset = 1 }), false},
		{set(api.EnRow, func(x *api.Entry) { x.Row.Offset = -1 }), false},
		{set(api.EnRow, func(x *api.Entry) { x.Row.Key, x.Row.Value = "", "" }), true},
		{set(api.EnRow, func(x *api.Entry) { x.Row.Key = letters(16) }), true},
		{set(api.EnRow, func(x *api.Entry) { x.Row.Key = letters(17) }), false},
		{set(api.EnRow, func(x *api.Entry) { x.Row.Value = letters(16) }), true},
		{set(api.EnRow, func(x *api.Entry) { x.Row.Value = letters(17) }), false},
		{set(api.EnState, func(x *api.Entry) { x.Prod = api.Prod{} }), false},
		{set(api.EnState, func(x *api.Entry) { x.Prod.Pid = 9 }), false},
		{set(api.EnState, func(x *api.Entry) { x.Prod.Seen = []api.Seen{} }), true},
	} {
		if got := entry.May(x.x); got != x.want {
			t.Errorf("%d: May(%s) = %v", i, short(x.x), got)
		}
	}
	for i, x := range base {
		if !entry.May(x) {
			t.Errorf("%d: May(%s) = false", i, short(x))
		}
	}
}

// TestMayWithAFieldThatTheKindHasNot: each such field alone, not zero; lists that are empty and not nil are zero.
func TestMayWithAFieldThatTheKindHasNot(t *testing.T) { // P7.1
	fields := []struct {
		kinds string // that have it
		set   func(x *api.Entry)
	}{
		{"0134", func(x *api.Entry) { x.B.Pid = 1 }},
		{"0134", func(x *api.Entry) { x.B.Epoch = 1 }},
		{"03", func(x *api.Entry) { x.B.Seq = 1 }},
		{"03", func(x *api.Entry) { x.B.Txn = true }},
		{"03", func(x *api.Entry) { x.B.Records = []api.Record{{}} }},
		{"03", func(x *api.Entry) { x.B.Records = []api.Record{kv("a", "b")} }},
		{"13", func(x *api.Entry) { x.Yes = true }},
		{"34", func(x *api.Entry) { x.Next = 1 }},
		{"2", func(x *api.Entry) { x.Offset = 1 }},
		{"", func(x *api.Entry) { x.Row.Offset = 1 }},
		{"5", func(x *api.Entry) { x.Row.Pid = 1 }},
		{"5", func(x *api.Entry) { x.Row.Seq = 1 }},
		{"5", func(x *api.Entry) { x.Row.Key = "a" }},
		{"5", func(x *api.Entry) { x.Row.Value = "a" }},
		{"6", func(x *api.Entry) { x.Prod.Pid = 1 }},
		{"6", func(x *api.Entry) { x.Prod.Epoch = 1 }},
		{"6", func(x *api.Entry) { x.Prod.Next = 1000 }},
		{"6", func(x *api.Entry) { x.Prod.Seen = []api.Seen{{Seq: 0, Count: 1}} }},
		{"3456012", func(x *api.Entry) { x.B.Records = slices.Clip(append([]api.Record{}, x.B.Records...)) }},
		{"3456012", func(x *api.Entry) { x.Prod.Seen = append([]api.Seen{}, x.Prod.Seen...) }},
	}
	for i, f := range fields {
		for _, base := range bases() {
			x := changed(base, f.set)
			want := strings.ContainsRune(f.kinds, '0'+rune(base.Kind))
			if base.Kind == api.EnCopy && !base.Yes && x.Next != 0 {
				want = false
			}
			if got := entry.May(x); got != want {
				t.Errorf("%d: May(%s) = %v", i, short(x), got)
			}
			if s, e := entry.Bytes(x); (e == api.OK) != want || !want && (e != api.ErrArg || s != "") {
				t.Errorf("%d: Bytes(%s) = % x, %v", i, short(x), s, e)
			}
		}
	}
}

func TestMayOfManyEntries(t *testing.T) { // P7.1
	count := map[int8]int{}
	for _, x := range slices.Concat(entries(), twice()) {
		if got := entry.May(x); got != valid(x) {
			t.Fatalf("May(%s) = %v", short(x), got)
		}
		if valid(x) {
			count[x.Kind]++
		}
	}
	for kind := int8(0); kind < 7; kind++ {
		if count[kind] < 20 {
			t.Errorf("%d entries of kind %d are valid", count[kind], kind)
		}
	}
}

// apart returns entries no two of which are equal; most differ from others in one field alone.
func apart() []api.Entry {
	full := api.Entry{Kind: 3, B: batch(), Yes: true, Next: 5, Offset: 6, Row: api.Row{Offset: 1, Pid: 2, Seq: 3, Key: "k", Value: "v"}, Prod: prod(3)}
	l := []api.Entry{full, {}}
	for _, set := range []func(x *api.Entry){
		func(x *api.Entry) { x.Kind = 4 },
		func(x *api.Entry) { x.Kind = -3 },
		func(x *api.Entry) { x.Yes = !x.Yes },
		func(x *api.Entry) { x.B.Txn = !x.B.Txn },
		func(x *api.Entry) { x.B.Records = make([]api.Record, 1) },
		func(x *api.Entry) { x.B.Records = append(x.B.Records, api.Record{}, kv("", "")) },
		func(x *api.Entry) { x.Prod.Seen = make([]api.Seen, 1) },
		func(x *api.Entry) { x.Prod.Seen = append(x.Prod.Seen, make([]api.Seen, 2)...) },
	} {
		l = append(l, changed(full, set), changed(api.Entry{}, set))
	}
	for _, place := range places(full) {
		for _, n := range []int{math.MinInt, -7, 1 << 32, math.MaxInt} {
			l = append(l, changed(full, func(x *api.Entry) { *place(x) = n }))
		}
	}
	for _, place := range places(api.Entry{}) {
		for _, n := range []int{-1, 1, math.MinInt} {
			l = append(l, changed(api.Entry{}, func(x *api.Entry) { *place(x) = n }))
		}
	}
	for _, place := range words(full) {
		for _, s := range []string{"x", "\x00", letters(17)} {
			l = append(l, changed(full, func(x *api.Entry) { *place(x) = s }))
		}
	}
	return append(l,
		changed(full, func(x *api.Entry) { x.B.Records = x.B.Records[:1] }),
		changed(full, func(x *api.Entry) { x.B.Records = nil }),
		changed(full, func(x *api.Entry) { slices.Reverse(x.B.Records) }),
		changed(full, func(x *api.Entry) { x.Prod.Seen = x.Prod.Seen[:2] }),
		changed(full, func(x *api.Entry) { x.Prod.Seen = x.Prod.Seen[1:] }),
		changed(full, func(x *api.Entry) { x.Prod.Seen = nil }),
		changed(full, func(x *api.Entry) { slices.Reverse(x.Prod.Seen) }),
		changed(full, func(x *api.Entry) { x.Row.Key, x.Row.Value = "v", "k" }),
		changed(full, func(x *api.Entry) { x.Row.Key, x.Row.Value = "kv", "" }))
}

func TestSame(t *testing.T) { // P7.1
	l := apart()
	for i, a := range l {
		for j, b := range l {
			b = changed(b, func(*api.Entry) {})
			if got := entry.Same(a, b); got != (i == j) {
				t.Errorf("Same(%s, %s) = %v", short(a), short(b), got)
			}
			same := equal(api.Entry{Prod: a.Prod}, api.Entry{Prod: b.Prod})
			if got := entry.SameProd(a.Prod, b.Prod); got != same {
				t.Errorf("SameProd(%s, %s) = %v", short(a.Prod), short(b.Prod), got)
			}
		}
	}
}

func TestSameProd(t *testing.T) { // P7.1
	var l []api.Prod
	for n := range 5 {
		l = append(l, prod(n))
	}
	for _, place := range places(api.Entry{Prod: prod(3)})[8:] {
		for _, n := range []int{-9, math.MaxInt} {
			x := changed(api.Entry{Prod: prod(3)}, func(x *api.Entry) { *place(x) = n })
			l = append(l, x.Prod)
		}
	}
	for i, a := range l {
		for j, b := range l {
			b.Seen = slices.Clone(b.Seen)
			if got := entry.SameProd(a, b); got != (i == j) {
				t.Errorf("SameProd(%s, %s) = %v", short(a), short(b), got)
			}
		}
	}
}

func TestNilAndEmptyAreTheSame(t *testing.T) { // P7.1
	for _, x := range []api.Entry{{}, {Kind: 2, Offset: 5}, {Kind: 6, Prod: api.Prod{Pid: 1}}} {
		y := x
		y.B.Records, y.Prod.Seen = []api.Record{}, []api.Seen{}
		if !entry.Same(x, y) || !entry.Same(y, x) || !entry.SameProd(x.Prod, y.Prod) || !entry.SameProd(y.Prod, x.Prod) {
			t.Errorf("a nil list and an empty one are apart in %s", short(x))
		}
		if entry.May(x) != entry.May(y) {
			t.Errorf("May of %s hangs on whether a list is nil", short(x))
		}
		one, e := entry.Bytes(x)
		two, f := entry.Bytes(y)
		if one != two || e != f {
			t.Errorf("Bytes of %s hang on whether a list is nil", short(x))
		}
	}
}

func TestBytesOfTheExamples(t *testing.T) { // P7.2
	base := bases()
	b := "\x03\x07\xac\x02\x01\x02\x01k\x02vv\x00\x03www"
	for want, x := range map[string]api.Entry{
		"\x02\xac\x02":                             {Kind: api.EnCut, Offset: 300},
		"\x01\x03\x00\x01":                         {Kind: api.EnMark, B: api.Batch{Pid: 3}, Yes: true},
		"\x01\x03\x64\x00":                         {Kind: api.EnMark, B: api.Batch{Pid: 3, Epoch: 100}},
		"\x02\x00":                                 base[9],
		"\x02\x80\x80\x40":                         {Kind: api.EnCut, Offset: 1 << 20},
		"\x00" + b:                                 base[0],
		"\x03" + b + "\x01\x90\x03":                base[3],
		"\x03" + b + "\x00":                        base[10],
		"\x03" + b + "\x01\x00":                    base[11],
		"\x04\x06\x32\xf4\x03":                     base[4],
		"\x04\x01\x00\x00":                         base[12],
		"\x05\x07\xd8\x04\x03key\x05value":         base[5],
		"\x05\x01\x00\x00\x00":                     base[13],
		"\x06\x04\x09\xe8\x07\x00":                 base[14],
		"\x06\x04\x09\xe8\x07\x01\xc8\x01\x01\x00": base[15],
		"\x06\x04\x09\xe8\x07\x03\xc8\x01\x01\x00\xd2\x01\x02\x28\xdc\x01\x03\x50": base[6],
		"\x06\x01\x00\x80\x80\x40\x01\xfc\xff\x3f\x04\x81\x80\x40":                 {Kind: api.EnState, Prod: api.Prod{Pid: 1, Next: 1 << 20, Seen: []api.Seen{{Seq: 1<<20 - 4, Count: 4, Base: 1 << 20}}}},
	} {
		if s, e := entry.Bytes(x); e != api.OK || s != want {
			t.Errorf("Bytes(%s) = % x, %v; want % x", short(x), s, e, want)
		}
		if got, e := entry.Read(want); e != api.OK || !equal(got, x) {
			t.Errorf("Read(% x) = %s, %v", want, short(got), e)
		}
	}
}

func TestBytesOfManyEntries(t *testing.T) { // P7.2
	for _, x := range slices.Concat(entries(), twice()) {
		s, e := entry.Bytes(x)
		switch {
		case !valid(x):
			if s != "" || e != api.ErrArg {
				t.Fatalf("Bytes(%s) = % x, %v", short(x), s, e)
			}
		case s != written(x) || e != api.OK:
			t.Fatalf("Bytes(%s) = % x, %v", short(x), s, e)
		}
	}
}

// wantRead holds what Read returns to what the reference reads.
func wantRead(t *testing.T, s string) {
	t.Helper()
	want, ok := taken(s)
	x, e := entry.Read(s)
	if ok != (e == api.OK) || !ok && e != api.ErrCode || !equal(x, want) {
		t.Fatalf("Read(% x) = %s, %v; want %s, %v", s, short(x), e, short(want), ok)
	}
}

// wantNone holds Read to ErrCode.
func wantNone(t *testing.T, s string) {
	t.Helper()
	if x, e := entry.Read(s); e != api.ErrCode || !isEmpty(x) {
		t.Errorf("Read(% .100x) = %s, %v", s, short(x), e)
	}
}

func TestReadOfBytes(t *testing.T) { // P7.2
	for _, x := range valids() {
		if got, e := entry.Read(written(x)); e != api.OK || !equal(got, x) {
			t.Errorf("Read of the bytes of %s = %s, %v", short(x), short(got), e)
		}
	}
}

// TestReadOfWhatIsNotValid: what would be the bytes of an entry if it were valid.
func TestReadOfWhatIsNotValid(t *testing.T) { // P7.2
	count := 0
	for _, x := range slices.Concat(entries(), twice()) {
		if !isWritable(x) {
			continue
		}
		wantRead(t, written(x))
		if _, ok := taken(written(x)); !ok {
			count++
		}
	}
	if count < 1000 {
		t.Errorf("%d of the entries have no bytes", count)
	}
}

func TestReadOfEachBeginning(t *testing.T) { // P7.2
	for _, x := range bases() {
		s := written(x)
		for size := range len(s) {
			wantNone(t, s[:size])
		}
	}
	wantNone(t, "")
}

func TestReadWithMoreBehind(t *testing.T) { // P7.2
	for _, x := range bases() {
		s := written(x)
		for c := range 256 {
			wantNone(t, s+string([]byte{byte(c)}))
		}
		for _, more := range []string{s, "\x00\x00", "\x80\x80\x80\x80\x80\x80\x80", strings.Repeat("\x00", 1<<20)} {
			wantNone(t, s+more)
		}
	}
}

// TestReadOfChangedBytes: each byte is changed to each other one, taken away, or doubled; one is put before it.
func TestReadOfChangedBytes(t *testing.T) { // P7.2, P7.3
	for _, x := range bases() {
		s := written(x)
		for at := range len(s) {
			for c := range 256 {
				one := string([]byte{byte(c)})
				wantRead(t, s[:at]+one+s[at+1:])
				wantRead(t, s[:at]+one+s[at:])
				if got, e := entry.Read(s[:at] + one + s[at+1:]); e == api.OK && equal(got, x) != (one == s[at:at+1]) {
					t.Fatalf("byte %d of % x is %x: Read = %s", at, s, c, short(got))
				}
			}
			wantRead(t, s[:at]+s[at+1:])
		}
	}
}

func TestReadOfKindsThatAreNone(t *testing.T) { // P7.2
	for _, x := range bases() {
		rest := written(x)[1:]
		for kind := 7; kind < 256; kind++ {
			wantNone(t, string([]byte{byte(kind)})+rest)
		}
		wantNone(t, number(256+int(x.Kind))+rest) // as a byte it would be the kind
		wantNone(t, string([]byte{byte(x.Kind) + 128, 0})+rest)
	}
	for kind := range 256 {
		wantNone(t, string([]byte{byte(kind)}))
	}
}

// TestReadOfNumbersInMoreBytes: each number of an entry with a byte more than it needs.
func TestReadOfNumbersInMoreBytes(t *testing.T) { // P7.2
	for _, x := range bases() {
		s := written(x)
		for at := range len(s) {
			if s[at] < 128 {
				wantRead(t, s[:at]+string([]byte{s[at] + 128, 0})+s[at+1:])
			}
		}
	}
	for i, s := range []string{
		"\x82\x00\xac\x02", "\x02\xac\x82\x00", "\x02\x85\x00", "\x02\x80\x00",
		"\x01\x83\x00\x00\x01", "\x01\x03\x80\x00\x01", "\x01\x03\x00\x81\x00",
		"\x04\x06\x01\x80\x00", "\x05\x01\x80\x00\x00\x00", "\x05\x01\x00\x80\x00\x00",
		"\x06\x04\x09\x05\x80\x00", "\x06\x04\x09\x05\x81\x00\x00\x01\x00", "\x06\x04\x09\x05\x01\x80\x00\x01\x00",
		"\x06\x04\x09\x05\x01\x00\x81\x00\x00", "\x06\x04\x09\x05\x01\x00\x01\x80\x00",
		"\x02\x85\x80\x80\x80\x80\x80\x80\x80\x80\x02", // 5, and 2^64, which would be shifted out
	} {
		if _, ok := taken(s); ok {
			t.Fatalf("%d is an entry", i)
		}
		wantNone(t, s)
	}
}

func TestReadOfFlagsThatAreNone(t *testing.T) { // P7.2
	b := writtenBatch(batch())
	for c := 2; c < 256; c++ {
		yes := string([]byte{byte(c)})
		wantNone(t, "\x01\x03\x00"+yes)
		wantNone(t, "\x03"+b+yes)
		wantNone(t, "\x03"+b+yes+"\x05")
		wantNone(t, "\x00"+strings.Replace(b, "\xac\x02\x01", "\xac\x02"+yes, 1))
	}
	for s, want := range map[string]bool{
		"\x01\x03\x00\x00": true, "\x01\x03\x00\x01": true, "\x03" + b + "\x00": true, "\x03" + b + "\x01\x05": true,
		"\x03" + b + "\x00\x00": false, "\x03" + b + "\x00\x05": false, "\x03" + b + "\x01": false,
	} {
		if _, e := entry.Read(s); (e == api.OK) != want {
			t.Errorf("Read(% x): %v", s, e)
		}
	}
}

// TestReadOfManyThatWereSeen: such a number of batches that going through them would take years.
func TestReadOfManyThatWereSeen(t *testing.T) { // P7.2, R1
	for _, n := range []int{4, 5, 100, 1 << 30, 1 << 40} {
		for _, rest := range []string{"", strings.Repeat("\x00", 3*min(n, 1<<10))} {
			wantNone(t, "\x06\x04\x09\xe8\x07"+number(n)+rest)
		}
	}
	var seen string
	for i := range 4 {
		seen += number(i) + "\x01\x00"
	}
	wantNone(t, "\x06\x04\x09\xe8\x07\x04"+seen)
}

// TestReadOfAllShortStrings: all strings of up to six bytes of some that make entries.
func TestReadOfAllShortStrings(t *testing.T) { // P7.2, P7.3
	alphabet := "\x00\x01\x02\x03\x04\x05\x06\x80"
	count := map[int8]int{}
	var all func(s string, left int)
	all = func(s string, left int) {
		want, ok := taken(s)
		x, e := entry.Read(s)
		if ok != (e == api.OK) || ok && !equal(x, want) {
			t.Fatalf("Read(% x) = %s, %v", s, short(x), e)
		}
		if ok {
			count[x.Kind]++
			if back, e := entry.Bytes(x); e != api.OK || back != s {
				t.Fatalf("Read(% x) = %s, but its Bytes are % x, %v", s, short(x), back, e)
			}
		}
		if left == 0 {
			return
		}
		for i := range len(alphabet) {
			all(s+alphabet[i:i+1], left-1)
		}
	}
	all("", 6)
	for _, kind := range []int8{1, 2, 4, 5, 6} {
		if count[kind] < 3 {
			t.Errorf("%d strings are entries of kind %d", count[kind], kind)
		}
	}
}

func TestLoadsAndAll(t *testing.T) { // P7.2
	whole := valids()
	for _, l := range [][]api.Entry{nil, {}, bases()[:1], bases(), whole, slices.Repeat(bases(), 50)} {
		var want []string
		for _, x := range l {
			want = append(want, written(x))
		}
		loads, e := entry.Loads(l)
		if e != api.OK || !slices.Equal(loads, want) {
			t.Errorf("Loads of %d are %d, %v", len(l), len(loads), e)
		}
		back, e := entry.All(want)
		if e != api.OK || !slices.EqualFunc(back, l, equal) {
			t.Errorf("All of %d are %d, %v", len(l), len(back), e)
		}
	}
	if l, e := entry.All([]string{}); e != api.OK || len(l) != 0 {
		t.Errorf("All of none = %v, %v", l, e)
	}
}

// TestLoadsAndAllWithOneThatIsWrong: at each place one alone, or two.
func TestLoadsAndAllWithOneThatIsWrong(t *testing.T) { // P7.2
	for _, n := range []int{1, 2, 3, 9} {
		for at := range n {
			l := slices.Clone(bases()[:n])
			loads, _ := entry.Loads(l)
			for _, x := range []api.Entry{{}, {Kind: 7}, {Kind: -1}, {Kind: api.EnCut, Offset: -1}, {Kind: api.EnCut, Yes: true}} {
				l[at] = x
				if got, e := entry.Loads(l); e != api.ErrArg || len(got) != 0 {
					t.Errorf("Loads with %s at %d of %d = %q, %v", short(x), at, n, got, e)
				}
			}
			for _, s := range []string{"", "\x07", "\x02", "\x02\x05\x00", loads[at] + "\x00", loads[at][1:]} {
				bad := slices.Clone(loads)
				bad[at] = s
				if got, e := entry.All(bad); e != api.ErrCode || len(got) != 0 {
					t.Errorf("All with % x at %d of %d = %s, %v", s, at, n, short(got), e)
				}
			}
		}
	}
}

func TestReadOfBytesAndBytesOfRead(t *testing.T) { // P7.3
	most := 0
	for _, x := range valids() {
		s, e := entry.Bytes(x)
		if e != api.OK || len(s) > api.MaxLoad {
			t.Fatalf("Bytes(%s) has %d bytes, %v", short(x), len(s), e)
		}
		back, e := entry.Read(s)
		if e != api.OK || !equal(back, x) || !entry.Same(back, x) || !entry.May(back) {
			t.Fatalf("Read(Bytes(%s)) = %s, %v", short(x), short(back), e)
		}
		again, e := entry.Bytes(back)
		if e != api.OK || again != s {
			t.Fatalf("Bytes(Read(% x)) = % x, %v", s, again, e)
		}
		most = max(most, len(s))
	}
	long := api.Entry{Kind: api.EnCopy, Yes: true, Next: 1 << 20, B: api.Batch{
		Pid: 8, Epoch: 100, Seq: 1 << 15, Txn: true, Records: slices.Repeat([]api.Record{kv(letters(16), letters(16))}, 4)}}
	s, e := entry.Bytes(long)
	if e != api.OK || len(s) != 148 || most > len(s) { // a kind, a batch of 143, a flag, three of a sequence
		t.Errorf("the longest entry has %d bytes, %v; another one %d", len(s), e, most)
	}
}

// randomEntry returns an entry that is valid.
func randomEntry(x *rand.Rand) api.Entry {
	b := api.Batch{Pid: 1 + x.Intn(8), Epoch: x.Intn(101), Seq: x.Intn(1 << x.Intn(20)), Txn: true}
	for range 1 + x.Intn(4) {
		b.Records = append(b.Records, kv(letters(x.Intn(17)), letters(x.Intn(17))))
	}
	who := api.Batch{Pid: b.Pid, Epoch: b.Epoch}
	next := x.Intn(1<<20 + 1)
	p := api.Prod{Pid: b.Pid, Epoch: b.Epoch}
	for range x.Intn(4) {
		seen := api.Seen{Seq: p.Next + x.Intn(1<<x.Intn(18)), Count: 1 + x.Intn(4), Base: x.Intn(1<<x.Intn(21)) - 1}
		p.Seen, p.Next = append(p.Seen, seen), seen.Seq+seen.Count
	}
	p.Next += x.Intn(2 + x.Intn(9))
	all := []api.Entry{
		{Kind: api.EnData, B: b}, {Kind: api.EnMark, B: who, Yes: next%2 == 0}, {Kind: api.EnCut, Offset: next},
		{Kind: api.EnCopy, B: b}, {Kind: api.EnCopy, B: b, Yes: true, Next: next}, {Kind: api.EnDrop, B: who, Next: next},
		{Kind: api.EnRow, Row: api.Row{Pid: b.Pid, Seq: b.Seq, Key: b.Records[0].Key, Value: b.Records[0].Value}},
		{Kind: api.EnState, Prod: p},
	}
	return all[x.Intn(len(all))]
}

// TestOfRandomEntries: entries by chance, and what some changed bytes make of them.
func TestOfRandomEntries(t *testing.T) { // P7.2, P7.3
	x := rand.New(rand.NewSource(7))
	for range 40000 {
		one := randomEntry(x)
		s, e := entry.Bytes(one)
		if e != api.OK || s != written(one) {
			t.Fatalf("Bytes(%s) = % x, %v", short(one), s, e)
		}
		wantRead(t, s)
		bytes := []byte(s)
		for range 1 + x.Intn(3) {
			bytes[x.Intn(len(bytes))] = byte(x.Intn(256) >> x.Intn(8))
		}
		wantRead(t, string(bytes))
		if back, e := entry.Read(string(bytes)); e == api.OK {
			if again, e := entry.Bytes(back); e != api.OK || again != string(bytes) {
				t.Fatalf("Bytes(Read(% x)) = % x, %v", bytes, again, e)
			}
		}
	}
}

// TestArgumentsStay: no call changes the lists that it is given, or what is behind them.
func TestArgumentsStay(t *testing.T) { // R4
	for _, base := range bases() {
		records, seen := make([]api.Record, 9), make([]api.Seen, 9)
		for i := range 9 {
			records[i], seen[i] = kv("spare", "room"), api.Seen{Seq: -i, Count: -i, Base: -i}
		}
		copy(records, base.B.Records)
		copy(seen, base.Prod.Seen)
		x := base
		x.B.Records, x.Prod.Seen = records[:len(base.B.Records)], seen[:len(base.Prod.Seen)]
		recordsWere, seenWere := slices.Clone(records), slices.Clone(seen)
		list := []api.Entry{x, x, {Kind: 99}}
		if !entry.May(x) || !entry.Same(x, base) || !entry.SameProd(x.Prod, base.Prod) {
			t.Errorf("%s is another one", short(x))
		}
		entry.Known(x.Prod)
		entry.Bytes(x)
		entry.Loads(list[:2])
		entry.Loads(list)
		if !slices.Equal(records, recordsWere) || !slices.Equal(seen, seenWere) || !equal(list[1], base) || list[2].Kind != 99 {
			t.Errorf("%s has changed", short(base))
		}
	}
	loads, _ := entry.Loads(bases())
	whole := append(loads, "\x07", "spare")
	was := slices.Clone(whole)
	entry.All(whole[:len(loads)])
	entry.All(whole[:len(loads)+1])
	if !slices.Equal(whole, was) {
		t.Error("All changed its argument")
	}
}

// spoil changes everything that an entry's lists reach, spare room included.
func spoil(x api.Entry) {
	for i := range x.B.Records[:cap(x.B.Records)] {
		x.B.Records[:cap(x.B.Records)][i] = kv("spoilt", "spoilt")
	}
	for i := range x.Prod.Seen[:cap(x.Prod.Seen)] {
		x.Prod.Seen[:cap(x.Prod.Seen)][i] = api.Seen{Seq: -9, Count: -9, Base: -9}
	}
}

// TestResultsAreNew: what is made of one result changes no other one, and no argument.
func TestResultsAreNew(t *testing.T) { // R4
	loads, _ := entry.Loads(bases())
	again, _ := entry.Loads(bases())
	for i, want := range bases() {
		one, _ := entry.Read(loads[i])
		two, _ := entry.Read(loads[i])
		spoil(one)
		if three, _ := entry.Read(loads[i]); !equal(two, want) || !equal(three, want) {
			t.Errorf("entries share memory: %s", short(two))
		}
	}
	doubled := slices.Repeat(loads, 2)
	one, _ := entry.All(doubled)
	two, _ := entry.All(doubled)
	n := len(loads)
	for i := range n {
		spoil(one[i])
		one[i] = api.Entry{Kind: 99}
	}
	one = append(one[:n], slices.Repeat([]api.Entry{{Kind: 98}}, cap(one)-n)...)
	_ = one
	if !slices.EqualFunc(two, slices.Repeat(bases(), 2), equal) {
		t.Error("lists of entries share memory")
	}
	three, _ := entry.All(doubled)
	for i := range n {
		spoil(three[i])
	}
	if !slices.EqualFunc(three[n:], bases(), equal) {
		t.Error("entries of one list share memory")
	}
	loads = loads[:cap(loads)]
	for i := range loads {
		loads[i] = "spoilt"
	}
	if third, _ := entry.Loads(bases()); !slices.Equal(third, again) {
		t.Error("lists of loads share memory")
	}
}

// TestLists: that a list is long makes each of its elements no slower; otherwise this takes minutes.
func TestLongLists(t *testing.T) { // R1
	l := slices.Repeat(bases(), 1<<13)
	loads, e := entry.Loads(l)
	if e != api.OK || len(loads) != len(l) {
		t.Fatalf("%d loads, %v", len(loads), e)
	}
	back, e := entry.All(loads)
	if e != api.OK || !slices.EqualFunc(back, l, entry.Same) {
		t.Errorf("%d entries, %v", len(back), e)
	}
	long := api.Entry{Kind: api.EnData, B: api.Batch{Pid: 1, Records: make([]api.Record, 1<<20)}}
	if _, e := entry.Bytes(long); e != api.ErrArg || entry.May(long) || !entry.Same(long, long) {
		t.Errorf("a batch of 2^20 records: %v", e)
	}
	wantNone(t, "\x00"+writtenBatch(api.Batch{Pid: 1, Records: make([]api.Record, 1<<10)}))
	wantNone(t, strings.Repeat("\x01", 1<<20))
}
