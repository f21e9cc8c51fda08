package seqs_test

import (
	"math"
	"math/rand"
	"slices"
	"strings"
	"testing"

	"roving/api"
	"roving/seqs"
)

// batch returns a batch of n records, which is valid if all numbers are.
func batch(pid, epoch, seq, n int) api.Batch {
	b := api.Batch{Pid: pid, Epoch: epoch, Seq: seq}
	for i := range n {
		b.Records = append(b.Records, api.Record{Key: "key"[:i%4], Value: "value"})
	}
	return b
}

// prod returns a valid producer that has seen n batches, with sequences between them that were not.
func prod(pid, n int) api.Prod {
	p := api.Prod{Pid: pid, Epoch: 5, Next: 100*pid + 60}
	for i := range n {
		p.Seen = append(p.Seen, api.Seen{Seq: 100*pid + 10*i, Count: 1 + i, Base: 1000*pid + i})
	}
	return p
}

// prods returns a list of producers with these Pids.
func prods(pids ...int) []api.Prod {
	var l []api.Prod
	for i, pid := range pids {
		p := prod(pid, (pid+i)%4)
		p.Epoch += i // so that two with the same Pid are not the same
		l = append(l, p)
	}
	return l
}

// changed returns a list after a change of one producer; it shares no memory with l.
func changed(l []api.Prod, at int, change func(p *api.Prod)) []api.Prod {
	l = copied(l)
	change(&l[at])
	return l
}

// eight returns a list of all producers.
func eight() []api.Prod { return prods(1, 2, 3, 4, 5, 6, 7, 8) }

// pidLists returns all lists of up to most of these Pids, in whatever order and however often.
func pidLists(most int, pids ...int) [][]int {
	l := [][]int{nil}
	for from := 0; most > 0; most-- {
		end := len(l)
		for _, before := range l[from:end] {
			for _, pid := range pids {
				l = append(l, append(slices.Clone(before), pid))
			}
		}
		from = end
	}
	return l
}

// numbers returns numbers around each bound, and extreme ones.
func numbers() []int {
	return []int{math.MinInt, math.MinInt + 1, -1 << 40, -2, -1, 0, 1, 2, 3, 4, 5, 7, 8, 9, 99, 100, 101, 300, 310, 320, 323, 324,
		1<<20 - 4, 1<<20 - 3, 1<<20 - 2, 1<<20 - 1, 1 << 20, 1<<20 + 1, 1 << 40, math.MaxInt - 3, math.MaxInt - 1, math.MaxInt}
}

// places returns, for each number in a producer, a function that tells where it is.
func places(p api.Prod) []func(p *api.Prod) *int {
	l := []func(p *api.Prod) *int{
		func(p *api.Prod) *int { return &p.Pid },
		func(p *api.Prod) *int { return &p.Epoch },
		func(p *api.Prod) *int { return &p.Next },
	}
	for i := range p.Seen {
		l = append(l,
			func(p *api.Prod) *int { return &p.Seen[i].Seq },
			func(p *api.Prod) *int { return &p.Seen[i].Count },
			func(p *api.Prod) *int { return &p.Seen[i].Base })
	}
	return l
}

// changes returns what can be changed in a producer: each field alone.
func changes(p api.Prod) []func(p *api.Prod) {
	l := []func(p *api.Prod){
		func(p *api.Prod) { p.Seen = nil },
		func(p *api.Prod) { p.Seen = []api.Seen{} },
	}
	for n := 1; n <= 5; n++ {
		l = append(l, func(p *api.Prod) { p.Seen = prod(p.Pid, n).Seen }, func(p *api.Prod) { p.Seen = make([]api.Seen, n) })
	}
	for _, place := range places(p) {
		for _, n := range numbers() {
			l = append(l, func(p *api.Prod) { *place(p) = n })
		}
	}
	return l
}

func TestMayOfLists(t *testing.T) { // P10.1
	for i, x := range []struct {
		l    []api.Prod
		want bool
	}{
		{nil, true},
		{[]api.Prod{}, true},
		{[]api.Prod{{}}, false},
		{[]api.Prod{{Pid: 1}}, true},
		{[]api.Prod{{Pid: 8}}, true},
		{[]api.Prod{{Pid: 0}}, false},
		{[]api.Prod{{Pid: 9}}, false},
		{[]api.Prod{{Pid: -1}}, false},
		{[]api.Prod{{Pid: 1}, {Pid: 2}}, true},
		{[]api.Prod{{Pid: 1}, {Pid: 8}}, true},
		{[]api.Prod{{Pid: 1}, {Pid: 1}}, false},
		{[]api.Prod{{Pid: 2}, {Pid: 1}}, false},
		{[]api.Prod{{Pid: 8}, {Pid: 9}}, false},
		{[]api.Prod{{Pid: 0}, {Pid: 1}}, false},
		{[]api.Prod{{Pid: 1}, {Pid: 3}, {Pid: 2}}, false},
		{[]api.Prod{{Pid: 1}, {Pid: 3}, {Pid: 3}}, false},
		{[]api.Prod{{Pid: 1}, {Pid: 3}, {Pid: 4}}, true},
		{eight(), true},
		{append(eight(), api.Prod{Pid: 9}), false},
		{append(eight(), api.Prod{Pid: 8}), false},
		{append(eight(), api.Prod{Pid: 1}), false},
		{prods(8, 7, 6, 5, 4, 3, 2, 1), false},
	} {
		if got := may(t, x.l); got != x.want {
			t.Errorf("%d: May(%s) = %v", i, short(x.l), got)
		}
	}
}

func TestMayOfAllPids(t *testing.T) { // P10.1
	for _, pids := range pidLists(4, -1, 0, 1, 2, 4, 7, 8, 9, math.MinInt, math.MaxInt) {
		var l []api.Prod
		want := true
		for i, pid := range pids {
			l = append(l, api.Prod{Pid: pid})
			want = want && pid >= 1 && pid <= 8 && (i == 0 || pids[i-1] < pid)
		}
		if got := seqs.May(l); got != want {
			t.Errorf("May of %v = %v", pids, got)
		}
	}
}

// TestMayAtEachBound: a producer at each bound, and one past it, alone and among valid ones.
func TestMayAtEachBound(t *testing.T) { // P10.1
	for i, x := range []struct {
		change func(p *api.Prod) // of Pid 3: 300 1 3000, 310 2 3001, 320 3 3002; next is 360
		want   bool
	}{
		{func(p *api.Prod) {}, true},
		{func(p *api.Prod) { p.Epoch = -1 }, false},
		{func(p *api.Prod) { p.Epoch = 0 }, true},
		{func(p *api.Prod) { p.Epoch = 100 }, true},
		{func(p *api.Prod) { p.Epoch = 101 }, false},
		{func(p *api.Prod) { p.Next = 322 }, false},
		{func(p *api.Prod) { p.Next = 323 }, true},
		{func(p *api.Prod) { p.Next = 1 << 20 }, true},
		{func(p *api.Prod) { p.Next = 1<<20 + 1 }, false},
		{func(p *api.Prod) { p.Seen, p.Next = nil, 0 }, true},
		{func(p *api.Prod) { p.Seen, p.Next = nil, -1 }, false},
		{func(p *api.Prod) { p.Seen = nil }, true},
		{func(p *api.Prod) { p.Seen = p.Seen[:1] }, true},
		{func(p *api.Prod) { p.Seen = prod(3, 4).Seen }, false},
		{func(p *api.Prod) { p.Seen[0].Seq = -1 }, false},
		{func(p *api.Prod) { p.Seen[0].Seq = 0 }, true},
		{func(p *api.Prod) { p.Seen[0].Seq = 309 }, true},
		{func(p *api.Prod) { p.Seen[0].Seq = 310 }, false},
		{func(p *api.Prod) { p.Seen[2].Seq = 311 }, false},
		{func(p *api.Prod) { p.Seen[2].Seq = 312 }, true},
		{func(p *api.Prod) { p.Seen[2].Seq = 357 }, true},
		{func(p *api.Prod) { p.Seen[2].Seq = 358 }, false},
		{func(p *api.Prod) { p.Seen[1].Count = 0 }, false},
		{func(p *api.Prod) { p.Seen[1].Count = 1 }, true},
		{func(p *api.Prod) { p.Seen[1].Count = 4 }, true},
		{func(p *api.Prod) { p.Seen[1].Count = 5 }, false},
		{func(p *api.Prod) { p.Seen[1].Base = -2 }, false},
		{func(p *api.Prod) { p.Seen[1].Base = -1 }, true},
		{func(p *api.Prod) { p.Seen[1].Base = 1 << 20 }, true},
		{func(p *api.Prod) { p.Seen[1].Base = 1<<20 + 1 }, false},
	} {
		one := prod(3, 3)
		x.change(&one)
		alone, before, behind := []api.Prod{one}, prods(1, 2), prods(4, 8)
		for _, l := range [][]api.Prod{alone, slices.Concat(before, alone), slices.Concat(alone, behind), slices.Concat(before, alone, behind)} {
			if got := may(t, l); got != x.want {
				t.Errorf("%d: May(%s) = %v", i, short(l), got)
			}
		}
	}
}

// TestMayOfManyLists: one producer among valid ones, with each field changed.
func TestMayOfManyLists(t *testing.T) { // P10.1
	l := []api.Prod{prod(1, 2), prod(3, 3), prod(5, 1)}
	for at := range l {
		for _, change := range changes(l[at]) {
			x := changed(l, at, change)
			if got := seqs.May(x); got != validList(x) {
				t.Errorf("May(%s) = %v", short(x), got)
			}
		}
	}
}

func TestFind(t *testing.T) { // P10.1
	for _, pids := range pidLists(4, 1, 2, 3) {
		l := prods(pids...)
		for pid := -1; pid <= 4; pid++ {
			p, there := find(t, l, pid)
			want, wanted := wantedFind(l, pid)
			if there != wanted || !equal([]api.Prod{p}, []api.Prod{want}) {
				t.Errorf("Find of %d in %v = %s, %v", pid, pids, short(p), there)
			}
		}
	}
	for pid := range 10 {
		if p, there := find(t, eight(), pid); there != (pid >= 1 && pid <= 8) || there && p.Pid != pid {
			t.Errorf("Find of %d in eight = %s, %v", pid, short(p), there)
		}
	}
	for _, l := range [][]api.Prod{nil, {}} {
		if p, there := seqs.Find(l, 0); there || !equal([]api.Prod{p}, []api.Prod{{}}) {
			t.Errorf("Find in none = %s, %v", short(p), there)
		}
	}
	odd := []api.Prod{{Pid: math.MinInt, Next: -7}, {Pid: math.MaxInt, Seen: make([]api.Seen, 9)}, {Pid: -1}}
	for i, x := range odd {
		if p, there := find(t, odd, x.Pid); !there || !equal([]api.Prod{p}, odd[i:i+1]) {
			t.Errorf("Find of %d = %s, %v", x.Pid, short(p), there)
		}
	}
}

func TestSame(t *testing.T) { // P10.1
	lists := [][]api.Prod{nil, {{}}, {{}, {}}, prods(1), prods(2), prods(1, 2), prods(2, 1), prods(1, 2, 3), prods(1, 1), eight()}
	for i, a := range lists {
		for j, b := range lists {
			if got := same(t, a, copied(b)); got != (i == j) {
				t.Errorf("Same(%s, %s) = %v", short(a), short(b), got)
			}
		}
	}
	if !same(t, nil, []api.Prod{}) || !same(t, []api.Prod{}, nil) || !same(t, []api.Prod{{Seen: []api.Seen{}}}, []api.Prod{{}}) {
		t.Error("nil and empty lists are not the same")
	}
	if same(t, nil, []api.Prod{{}}) || same(t, []api.Prod{{}}, nil) {
		t.Error("a list of one producer without anything is the same as none")
	}
}

// TestSameOfOneChange: lists that differ in one field of one producer alone, or in one batch that was seen.
func TestSameOfOneChange(t *testing.T) { // P10.1
	l := []api.Prod{prod(1, 2), prod(3, 3), prod(5, 1)}
	for at := range l {
		for _, change := range changes(l[at]) {
			x := changed(l, at, change)
			if got := same(t, l, x); got != equal(l, x) {
				t.Errorf("Same(%s, %s) = %v", short(l), short(x), got)
			}
		}
		for _, place := range places(l[at]) {
			for _, more := range []int{-1, 1} {
				x := changed(l, at, func(p *api.Prod) { *place(p) += more })
				if same(t, l, x) || !same(t, x, copied(x)) {
					t.Errorf("Same(%s, %s)", short(l), short(x))
				}
			}
		}
	}
}

func TestClear(t *testing.T) { // P10.1
	for _, pids := range pidLists(4, 1, 2, 3) {
		l := prods(pids...)
		for _, pid := range pids {
			if got := clearing(t, l, pid); !equal(got, wantedClear(l, pid)) {
				t.Errorf("Clear of %d in %s = %s", pid, short(l), short(got))
			}
		}
	}
	l := []api.Prod{prod(1, 1), prod(4, 3), prod(7, 2)}
	for at, p := range l {
		got := clearing(t, l, p.Pid)
		for i := range l {
			want := l[i]
			if i == at {
				want.Seen = nil
			}
			if !equal(got[i:i+1], []api.Prod{want}) {
				t.Errorf("Clear of %d: %s", p.Pid, short(got))
			}
		}
		if again := clearing(t, got, p.Pid); !equal(again, got) {
			t.Errorf("Clear of %d, again: %s", p.Pid, short(again))
		}
	}
}

// TestClearOfNone: if the producer is not in the list, it is the same memory that is returned, spare room included.
func TestClearOfNone(t *testing.T) { // P10.1, R4
	for _, l := range [][]api.Prod{roomy(prods(2)), roomy(prods(1, 3, 5)), roomy(prods(5, 3, 1)), roomy(prods(1, 1)), make([]api.Prod, 1)} {
		was := all(l)
		for _, pid := range []int{math.MinInt, -1, 4, 9, math.MaxInt} {
			got := seqs.Clear(l, pid)
			if len(got) != len(l) || cap(got) != cap(l) || &got[0] != &l[0] {
				t.Errorf("Clear of %d in %s is another list", pid, short(l))
			}
		}
		if !slices.EqualFunc(all(l), was, func(a, b api.Prod) bool { return equal([]api.Prod{a}, []api.Prod{b}) }) {
			t.Errorf("Clear changed its argument: %s", short(l))
		}
	}
	if got := seqs.Clear(nil, 1); got != nil {
		t.Errorf("Clear of nil = %#v", got)
	}
	none := roomy(prods(1))[:0]
	if got := seqs.Clear(none, 1); len(got) != 0 || cap(got) != cap(none) || &got[:1][0] != &none[:1][0] {
		t.Errorf("Clear of an empty list = %s", short(got))
	}
}

func TestSet(t *testing.T) { // P10.1
	for _, pids := range pidLists(4, 2, 4, 6) {
		l := prods(pids...)
		for pid := 1; pid <= 7; pid++ {
			p := api.Prod{Pid: pid, Epoch: 77, Next: 88, Seen: []api.Seen{{Seq: 1, Count: 2, Base: pid}, {Seq: 5, Count: 1, Base: -1}}}
			if got := set(t, l, p); !equal(got, wantedSet(l, p)) {
				t.Errorf("Set of %d in %v = %s", pid, pids, short(got))
			}
		}
	}
	p := api.Prod{Pid: 4, Next: 9}
	for _, x := range []struct{ l, want []api.Prod }{
		{nil, []api.Prod{p}},
		{[]api.Prod{}, []api.Prod{p}},
		{prods(5), append([]api.Prod{p}, prods(5)...)},
		{prods(3), append(prods(3), p)},
		{prods(4), []api.Prod{p}},
		{[]api.Prod{prod(1, 2), prod(7, 3)}, []api.Prod{prod(1, 2), p, prod(7, 3)}},
		{[]api.Prod{prod(1, 2), prod(4, 1), prod(7, 3)}, []api.Prod{prod(1, 2), p, prod(7, 3)}},
		{[]api.Prod{prod(1, 2), prod(4, 1), prod(4, 3)}, []api.Prod{prod(1, 2), p, prod(4, 3)}},
		{[]api.Prod{prod(5, 2), prod(4, 1)}, []api.Prod{p, prod(5, 2), prod(4, 1)}},
		{[]api.Prod{prod(3, 2), prod(1, 1), prod(4, 1), prod(2, 3)}, []api.Prod{prod(3, 2), prod(1, 1), p, prod(2, 3)}},
	} {
		if got := set(t, x.l, p); !equal(got, x.want) {
			t.Errorf("Set in %s = %s", short(x.l), short(got))
		}
	}
}

// TestSetOfWhatIsNotValid: Set puts whatever it is given.
func TestSetOfWhatIsNotValid(t *testing.T) { // P10.1, R1
	l := []api.Prod{{Pid: math.MinInt}, {Pid: 3, Seen: make([]api.Seen, 9)}, {Pid: math.MaxInt}}
	for _, n := range numbers() {
		for _, p := range []api.Prod{{Pid: n}, {Pid: n, Epoch: n, Next: n, Seen: []api.Seen{{Seq: n, Count: n, Base: n}}}} {
			if got := set(t, l, p); !equal(got, wantedSet(l, p)) {
				t.Errorf("Set of %s = %s", short(p), short(got))
			}
		}
	}
}

// middle returns a list with a producer of Pid 4 and epoch 5, between others, that has seen three batches.
func middle() []api.Prod {
	return []api.Prod{
		{Pid: 2, Epoch: 9, Next: 3, Seen: []api.Seen{{Seq: 0, Count: 3, Base: 1}}},
		{Pid: 4, Epoch: 5, Next: 20, Seen: []api.Seen{{Seq: 10, Count: 2, Base: 700}, {Seq: 12, Count: 1, Base: -1}, {Seq: 16, Count: 4, Base: 1 << 20}}},
		{Pid: 6, Epoch: 0, Next: 0},
	}
}

func TestCheck(t *testing.T) { // P10.2
	for i, x := range []struct {
		b    api.Batch
		want checked
	}{
		// Not in the list.
		{batch(1, 0, 0, 1), checked{base: -1}},
		{batch(3, 5, 0, 4), checked{base: -1}},
		{batch(8, 100, 0, 2), checked{base: -1}},
		{batch(1, 0, 1, 1), checked{e: api.ErrOrder}},
		{batch(3, 5, 20, 1), checked{e: api.ErrOrder}},
		{batch(8, 100, 16, 4), checked{e: api.ErrOrder}},
		// A greater epoch.
		{batch(4, 6, 0, 1), checked{base: -1}},
		{batch(4, 100, 0, 4), checked{base: -1}},
		{batch(4, 6, 1, 1), checked{e: api.ErrOrder}},
		{batch(4, 6, 20, 1), checked{e: api.ErrOrder}},
		{batch(4, 6, 16, 4), checked{e: api.ErrOrder}},
		{batch(6, 1, 0, 1), checked{base: -1}},
		// A lower one.
		{batch(4, 4, 0, 1), checked{e: api.ErrFenced}},
		{batch(4, 0, 20, 1), checked{e: api.ErrFenced}},
		{batch(4, 4, 16, 4), checked{e: api.ErrFenced}},
		{batch(2, 8, 3, 1), checked{e: api.ErrFenced}},
		// The same.
		{batch(4, 5, 20, 1), checked{base: -1}},
		{batch(4, 5, 20, 4), checked{base: -1}},
		{batch(4, 5, 19, 1), checked{e: api.ErrOrder}},
		{batch(4, 5, 21, 1), checked{e: api.ErrOrder}},
		{batch(4, 5, 0, 1), checked{e: api.ErrOrder}},
		{batch(6, 0, 0, 1), checked{base: -1}},
		{batch(6, 0, 1, 1), checked{e: api.ErrOrder}},
		{batch(2, 9, 3, 2), checked{base: -1}},
		// Duplicates, and what only looks like one.
		{batch(4, 5, 10, 2), checked{base: 700, is: true}},
		{batch(4, 5, 12, 1), checked{base: -1, is: true}},
		{batch(4, 5, 16, 4), checked{base: 1 << 20, is: true}},
		{batch(2, 9, 0, 3), checked{base: 1, is: true}},
		{batch(4, 5, 10, 1), checked{e: api.ErrOrder}},
		{batch(4, 5, 10, 3), checked{e: api.ErrOrder}},
		{batch(4, 5, 12, 2), checked{e: api.ErrOrder}},
		{batch(4, 5, 16, 3), checked{e: api.ErrOrder}},
		{batch(4, 5, 9, 2), checked{e: api.ErrOrder}},
		{batch(4, 5, 11, 2), checked{e: api.ErrOrder}},
		{batch(4, 5, 14, 2), checked{e: api.ErrOrder}},
		{batch(2, 9, 10, 2), checked{e: api.ErrOrder}},
		{batch(6, 0, 10, 2), checked{e: api.ErrOrder}},
		// Not valid.
		{api.Batch{}, checked{e: api.ErrArg}},
		{batch(0, 5, 20, 1), checked{e: api.ErrArg}},
		{batch(9, 0, 0, 1), checked{e: api.ErrArg}},
		{batch(4, -1, 20, 1), checked{e: api.ErrArg}},
		{batch(4, 101, 0, 1), checked{e: api.ErrArg}},
		{batch(4, 5, -1, 1), checked{e: api.ErrArg}},
		{batch(4, 5, 20, 0), checked{e: api.ErrArg}},
		{batch(4, 5, 20, 5), checked{e: api.ErrArg}},
		{batch(4, 4, 20, 5), checked{e: api.ErrArg}},
		{batch(4, 5, 1<<20, 1), checked{e: api.ErrArg}},
		{batch(4, 5, 1<<20-1, 1), checked{e: api.ErrOrder}},
		{api.Batch{Pid: 4, Epoch: 5, Seq: 20, Records: []api.Record{{Key: strings.Repeat("k", 17)}}}, checked{e: api.ErrArg}},
		{api.Batch{Pid: 4, Epoch: 5, Seq: 20, Records: []api.Record{{Value: strings.Repeat("v", 17)}}}, checked{e: api.ErrArg}},
	} {
		for _, txn := range []bool{false, true} {
			b := x.b
			b.Txn = txn
			if got := check(t, middle(), b); got != x.want {
				t.Errorf("%d: Check(%s) = %v", i, short(b), got)
			}
			wantTake(t, middle(), b, 3)
		}
	}
}

// TestCheckOfOtherRecords: what makes a duplicate is its sequence and how many records it has, whatever these are.
func TestCheckOfOtherRecords(t *testing.T) { // P10.2
	b := api.Batch{Pid: 4, Epoch: 5, Seq: 10, Txn: true, Records: []api.Record{{}, {Key: "another", Value: "one"}}}
	if got := check(t, middle(), b); got != (checked{base: 700, is: true}) {
		t.Errorf("Check = %v", got)
	}
}

// TestListsThatAreNotValid: they are told ahead of anything else, whichever producer is wrong.
func TestListsThatAreNotValid(t *testing.T) { // P10.2, R2
	var lists [][]api.Prod
	for at := range middle() {
		for _, change := range changes(middle()[at]) {
			lists = append(lists, changed(middle(), at, change))
		}
	}
	lists = append(lists, prods(4, 4), prods(6, 4), prods(0), prods(9), []api.Prod{{}}, append(middle(), middle()...))
	wrong := 0
	for _, l := range lists {
		for _, b := range []api.Batch{batch(4, 5, 20, 1), batch(4, 5, 10, 2), batch(4, 4, 0, 1), batch(4, 5, 7, 1), batch(7, 0, 0, 1), batch(9, 0, 0, 1)} {
			got := check(t, l, b)
			if got != wantedCheck(l, b) {
				t.Errorf("Check(%s, %s) = %v", short(l), short(b), got)
			}
			if !validList(l) {
				wrong++
				after, e := take(t, l, b, 0)
				if got != (checked{e: api.ErrArg}) || e != api.ErrArg || len(after) != 0 {
					t.Errorf("Take(%s, %s) = %s, %v", short(l), short(b), short(after), e)
				}
			}
		}
	}
	if wrong < 1000 {
		t.Errorf("only %d lists are not valid", wrong)
	}
}

// wantTake holds Take to the document.
func wantTake(t *testing.T, l []api.Prod, b api.Batch, base int) {
	t.Helper()
	after, e := take(t, l, b, base)
	want, wanted := wantedTake(l, b, base)
	if e != wanted || !equal(after, want) {
		t.Errorf("Take(%s, %s, %d) = %s, %v", short(l), short(b), base, short(after), e)
	}
	if e == api.OK && !seqs.May(after) {
		t.Errorf("Take(%s, %s, %d) = %s, which is not valid", short(l), short(b), base, short(after))
	}
}

func TestTakeOfBases(t *testing.T) { // P10.2, R2
	for _, x := range []struct {
		base int
		want api.Errno
	}{
		{math.MinInt, api.ErrArg}, {-2, api.ErrArg}, {-1, api.OK}, {0, api.OK}, {5, api.OK}, {1<<20 - 1, api.OK},
		{1 << 20, api.OK}, {1<<20 + 1, api.ErrArg}, {math.MaxInt, api.ErrArg},
	} {
		after, e := take(t, middle(), batch(4, 5, 20, 3), x.base)
		if e != x.want || e != api.OK && len(after) != 0 {
			t.Errorf("Take with the base %d = %s, %v", x.base, short(after), e)
		}
		if p, _ := find(t, after, 4); e == api.OK && p.Seen[2] != (api.Seen{Seq: 20, Count: 3, Base: x.base}) {
			t.Errorf("Take with the base %d = %s", x.base, short(after))
		}
		if x.want == api.OK {
			continue
		}
		for _, b := range []api.Batch{batch(4, 4, 20, 1), batch(4, 5, 21, 1), batch(4, 5, 10, 2), batch(4, 5, 20, 0)} {
			if after, e := take(t, middle(), b, x.base); e != api.ErrArg || len(after) != 0 {
				t.Errorf("Take(%s, %d) = %s, %v", short(b), x.base, short(after), e)
			}
		}
	}
}

// TestTakeOfDuplicates: a duplicate of each place is refused, though Check has no error.
func TestTakeOfDuplicates(t *testing.T) { // P10.2
	for _, b := range []api.Batch{batch(4, 5, 10, 2), batch(4, 5, 12, 1), batch(4, 5, 16, 4), batch(2, 9, 0, 3)} {
		after, e := take(t, middle(), b, 700)
		if e != api.ErrOrder || len(after) != 0 {
			t.Errorf("Take(%s) = %s, %v", short(b), short(after), e)
		}
	}
}

// TestTakeOfOneBatchAfterAnother: the first ones of a producer; with the fourth the oldest is forgotten.
func TestTakeOfOneBatchAfterAnother(t *testing.T) { // P10.2
	others := []api.Prod{prod(1, 3), prod(7, 2)}
	seen := []api.Seen{{Seq: 0, Count: 2, Base: 0}, {Seq: 2, Count: 1, Base: -1}, {Seq: 3, Count: 4, Base: 9}, {Seq: 7, Count: 2, Base: 1 << 20}, {Seq: 9, Count: 3, Base: 5}}
	l := others
	for i, s := range seen {
		after, e := take(t, l, batch(4, 3, s.Seq, s.Count), s.Base)
		want := []api.Prod{others[0], {Pid: 4, Epoch: 3, Next: s.Seq + s.Count, Seen: seen[max(i-2, 0) : i+1]}, others[1]}
		if e != api.OK || !equal(after, want) {
			t.Fatalf("%d: %s, %v", i, short(after), e)
		}
		l = after
	}
	for i, s := range seen {
		want := checked{base: s.Base, is: true}
		if i < 2 {
			want = checked{e: api.ErrOrder} // forgotten
		}
		if got := check(t, l, batch(4, 3, s.Seq, s.Count)); got != want {
			t.Errorf("%d: Check = %v", i, got)
		}
	}
}

// TestTakeOfAnotherEpoch: all that was seen is forgotten, and the sequences begin anew.
func TestTakeOfAnotherEpoch(t *testing.T) { // P10.2
	for _, epoch := range []int{6, 7, 100} {
		after, e := take(t, middle(), batch(4, epoch, 0, 2), 8)
		want := []api.Prod{middle()[0], {Pid: 4, Epoch: epoch, Next: 2, Seen: []api.Seen{{Seq: 0, Count: 2, Base: 8}}}, middle()[2]}
		if e != api.OK || !equal(after, want) {
			t.Errorf("epoch %d: %s, %v", epoch, short(after), e)
		}
		for _, b := range []api.Batch{batch(4, 5, 10, 2), batch(4, 5, 20, 1), batch(4, 5, 0, 2)} {
			if got := check(t, after, b); got != (checked{e: api.ErrFenced}) {
				t.Errorf("Check(%s) = %v", short(b), got)
			}
		}
		for _, b := range []api.Batch{batch(4, epoch, 10, 2), batch(4, epoch, 20, 1)} {
			if got := check(t, after, b); got != (checked{e: api.ErrOrder}) {
				t.Errorf("Check(%s) = %v", short(b), got)
			}
		}
	}
}

func TestTakeUpToTheLastSequence(t *testing.T) { // P10.2
	for n := 1; n <= 4; n++ {
		l := []api.Prod{{Pid: 1, Next: 1<<20 - n}}
		after, e := take(t, l, batch(1, 0, 1<<20-n, n), 0)
		want := []api.Prod{{Pid: 1, Next: 1 << 20, Seen: []api.Seen{{Seq: 1<<20 - n, Count: n}}}}
		if e != api.OK || !equal(after, want) {
			t.Fatalf("%d records: %s, %v", n, short(after), e)
		}
		if got := check(t, after, batch(1, 0, 1<<20-n, n)); got != (checked{is: true}) {
			t.Errorf("%d records: Check = %v", n, got)
		}
		if after, e := take(t, after, batch(1, 0, 1<<20, 1), 0); e != api.ErrArg || len(after) != 0 {
			t.Errorf("%d records: a batch behind it: %s, %v", n, short(after), e)
		}
		if after, e := take(t, l, batch(1, 0, 1<<20-n, n+1), 0); e != api.ErrArg || len(after) != 0 {
			t.Errorf("%d records, and one more: %s, %v", n, short(after), e)
		}
		if after, e := take(t, after, batch(1, 1, 0, n), 0); e != api.OK || after[0].Next != n {
			t.Errorf("%d records: another epoch: %s, %v", n, short(after), e)
		}
	}
}

// TestTakeInItsPlace: a producer that is new comes to stand where its Pid belongs.
func TestTakeInItsPlace(t *testing.T) { // P10.2
	for _, pids := range [][]int{nil, {1}, {8}, {4}, {2, 4, 6}, {1, 2, 3}, {6, 7, 8}, {1, 2, 3, 4, 5, 6, 7, 8}} {
		for pid := 1; pid <= 8; pid++ {
			wantTake(t, prods(pids...), batch(pid, 90, 0, 2), 4)
		}
	}
}

func TestTheExamples(t *testing.T) { // P10.2
	l := []api.Prod{{Pid: 1, Next: 5, Seen: []api.Seen{{Seq: 3, Count: 2, Base: 9}}}}
	if got := check(t, l, batch(1, 0, 3, 2)); got != (checked{base: 9, is: true}) {
		t.Errorf("a duplicate: %v", got)
	}
	if got := check(t, l, batch(1, 0, 4, 1)); got != (checked{e: api.ErrOrder}) {
		t.Errorf("another sequence: %v", got)
	}
}

// TestOfManyBatches: each of many batches, in many lists, is what the document says.
func TestOfManyBatches(t *testing.T) { // P10.2
	seen := []api.Seen{{Seq: 0, Count: 1, Base: -1}, {Seq: 1, Count: 2, Base: 0}, {Seq: 4, Count: 1, Base: 1 << 20}}
	var lists [][]api.Prod
	for _, epoch := range []int{0, 1, 99, 100} {
		for from := range 4 {
			for end := from; end <= 3; end++ {
				p := api.Prod{Pid: 3, Epoch: epoch, Next: 5, Seen: seen[from:end]}
				lists = append(lists, []api.Prod{p}, []api.Prod{prod(1, 2), p, prod(8, 1)})
			}
		}
		lists = append(lists, []api.Prod{{Pid: 3, Epoch: epoch}}, []api.Prod{{Pid: 3, Epoch: epoch, Next: 1 << 20}})
	}
	lists = append(lists, nil, []api.Prod{}, prods(2, 4))
	for _, l := range lists {
		for _, pid := range []int{0, 1, 2, 3, 9} {
			for _, epoch := range []int{-1, 0, 1, 2, 99, 100, 101} {
				for _, seq := range []int{-1, 0, 1, 2, 3, 4, 5, 6, 1<<20 - 4, 1<<20 - 1, 1 << 20, math.MaxInt} {
					for n := range 6 {
						b := batch(pid, epoch, seq, n)
						base, is, e := seqs.Check(l, b)
						if got := (checked{base, is, e}); got != wantedCheck(l, b) {
							t.Fatalf("Check(%s, %s) = %v", short(l), short(b), got)
						}
						after, e := seqs.Take(l, b, seq)
						if want, wanted := wantedTake(l, b, seq); e != wanted || !equal(after, want) {
							t.Fatalf("Take(%s, %s, %d) = %s, %v", short(l), short(b), seq, short(after), e)
						}
					}
				}
			}
		}
	}
}

// TestOfExtremes: whatever is in a producer or in a batch, each call answers, as the document says.
func TestOfExtremes(t *testing.T) { // R1
	for _, n := range numbers() {
		odd := api.Prod{Pid: n, Epoch: n, Next: n, Seen: []api.Seen{{Seq: n, Count: n, Base: n}, {Seq: -n, Count: -n, Base: -n}}}
		b := batch(n, n, n, 1)
		for _, l := range [][]api.Prod{nil, {}, {odd}, {{}, odd}, {odd, odd}, middle(), append(middle(), odd)} {
			if got := check(t, l, b); got != wantedCheck(l, b) {
				t.Errorf("Check(%s, %s) = %v", short(l), short(b), got)
			}
			wantTake(t, l, b, n)
			wantTake(t, l, api.Batch{Pid: n, Epoch: n, Seq: n, Records: make([]api.Record, 300)}, 0)
			if got := may(t, l); got != validList(l) {
				t.Errorf("May(%s) = %v", short(l), got)
			}
			if !same(t, l, copied(l)) {
				t.Errorf("Same(%s) with itself", short(l))
			}
			p, there := find(t, l, n)
			if want, wanted := wantedFind(l, n); there != wanted || !equal([]api.Prod{p}, []api.Prod{want}) {
				t.Errorf("Find(%s, %d) = %s, %v", short(l), n, short(p), there)
			}
			if got := seqs.Clear(l, n); !equal(got, wantedClear(l, n)) {
				t.Errorf("Clear(%s, %d) = %s", short(l), n, short(got))
			}
		}
	}
}

// TestOfLongLists: that a list is long makes nothing slow; otherwise this takes minutes.
func TestOfLongLists(t *testing.T) { // R1
	l := make([]api.Prod, 1<<18)
	for i := range l {
		l[i] = api.Prod{Pid: i + 1}
	}
	l[0].Seen = make([]api.Seen, 1<<18)
	l[1<<18-1].Next = 7
	if _, _, e := seqs.Check(l, batch(8, 0, 0, 1)); e != api.ErrArg || seqs.May(l) || !seqs.Same(l, l) {
		t.Errorf("a list of 2^18 producers: %v", e)
	}
	if p, there := seqs.Find(l, 1<<18); !there || p.Next != 7 {
		t.Errorf("Find = %s, %v", short(p), there)
	}
	if after := seqs.Clear(l, 1); len(after) != len(l) || len(after[0].Seen) != 0 || len(l[0].Seen) != 1<<18 {
		t.Error("Clear of a list of 2^18 producers")
	}
	if after := seqs.Set(l, api.Prod{Pid: 1<<18 + 1}); len(after) != len(l)+1 || after[1<<18].Pid != 1<<18+1 {
		t.Error("Set in a list of 2^18 producers")
	}
	long := api.Batch{Pid: 1, Records: make([]api.Record, 1<<18)}
	if _, e := seqs.Take(nil, long, 0); e != api.ErrArg {
		t.Errorf("a batch of 2^18 records: %v", e)
	}
}

// history is what came about with one producer, as P10.3 sees it.
type history struct {
	epoch, next int
	took        map[[2]int]bool // each epoch and sequence of which a record was taken
	last        []api.Seen      // what was taken in the epoch and not cleared; not more than three
}

// take notes that a batch was taken.
func (h *history) take(t *testing.T, b api.Batch, base int) {
	t.Helper()
	if b.Epoch != h.epoch {
		h.last = nil
	}
	for i := range b.Records {
		at := [2]int{b.Epoch, b.Seq + i}
		if h.took[at] {
			t.Fatalf("%s is taken twice", short(b))
		}
		h.took[at] = true
	}
	h.epoch, h.next = b.Epoch, b.Seq+len(b.Records)
	h.last = append(h.last, api.Seen{Seq: b.Seq, Count: len(b.Records), Base: base})
	h.last = h.last[max(len(h.last)-3, 0):]
}

// TestOfHistories: batches in whatever order, cleared now and then; each producer in a list of its own, too.
func TestOfHistories(t *testing.T) { // P10.3
	x := rand.New(rand.NewSource(10))
	for range 100 {
		var l []api.Prod
		alone := map[int][]api.Prod{}
		all := map[int]*history{}
		for pid := 1; pid <= 8; pid++ {
			all[pid] = &history{took: map[[2]int]bool{}}
		}
		for range 300 {
			pid := 1 + x.Intn(1+x.Intn(8))
			h := all[pid]
			if x.Intn(12) == 0 {
				l, alone[pid] = seqs.Clear(l, pid), seqs.Clear(alone[pid], pid)
				h.last = nil
			}
			b := randomBatch(x, pid, h)
			base := x.Intn(50) - 1
			got := check(t, l, b)
			if base, is, e := seqs.Check(alone[pid], b); got != (checked{base, is, e}) {
				t.Fatalf("other producers make a difference: %s and %s: %v", short(l), short(b), got)
			}
			after, e := take(t, l, b, base)
			if (e == api.OK) != (got == checked{base: -1}) {
				t.Fatalf("Check(%s, %s) = %v, but Take %v", short(l), short(b), got, e)
			}
			if e == api.OK {
				h.take(t, b, base)
				l = after
				alone[pid], _ = seqs.Take(alone[pid], b, base)
			}
			wantLast(t, l, pid, h)
			p, _ := seqs.Find(l, pid)
			if q, _ := seqs.Find(alone[pid], pid); !equal([]api.Prod{p}, []api.Prod{q}) || !seqs.May(l) {
				t.Fatalf("other producers make a difference: %s and %s", short(l), short(q))
			}
		}
	}
}

// randomBatch returns a batch of a producer: often the next one, or one that was taken, or one of another epoch.
func randomBatch(x *rand.Rand, pid int, h *history) api.Batch {
	b := batch(pid, h.epoch, h.next, 1+x.Intn(4))
	switch x.Intn(8) {
	case 0:
		b.Seq = x.Intn(h.next + 6)
	case 1:
		b.Seq = max(0, h.next-x.Intn(12))
	case 2:
		b.Epoch = max(0, h.epoch-1)
	case 3:
		b.Epoch, b.Seq = min(h.epoch+1, 100), x.Intn(2)
	case 4:
		if len(h.last) > 0 {
			s := h.last[x.Intn(len(h.last))]
			b = batch(pid, h.epoch, s.Seq, s.Count)
		}
	}
	return b
}

// wantLast: of what was taken of a producer's epoch and not cleared, each of the last three is a duplicate with its base.
func wantLast(t *testing.T, l []api.Prod, pid int, h *history) {
	t.Helper()
	for _, s := range h.last {
		b := batch(pid, h.epoch, s.Seq, s.Count)
		if base, is, e := seqs.Check(l, b); base != s.Base || !is || e != api.OK {
			t.Fatalf("Check(%s, %s) = %d, %v, %v", short(l), short(b), base, is, e)
		}
		if _, e := seqs.Take(l, b, 0); e != api.ErrOrder {
			t.Fatalf("Take(%s, %s): %v", short(l), short(b), e)
		}
	}
}
