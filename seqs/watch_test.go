package seqs_test

import (
	"reflect"
	"slices"
	"testing"

	"roving/api"
	"roving/seqs"
)

// What stands here calls the functions, and holds each call to R3 and R4: a second one answers the same, what is handed
// in stays as it was, spare room included, and what is returned shares no memory.

// roomySeen returns a list that is equal to l and has room behind it in which something stands.
func roomySeen(l []api.Seen) []api.Seen {
	r := append([]api.Seen{}, l...)
	for i := range 4 {
		r = append(r, api.Seen{Seq: -50 - i, Count: -60 - i, Base: -70 - i})
	}
	return r[:len(l)]
}

// roomy returns a list that is equal to l, in which every list has such room. Of nil it is nil.
func roomy(l []api.Prod) []api.Prod {
	if l == nil {
		return nil
	}
	r := append([]api.Prod{}, l...)
	for i := range 3 {
		r = append(r, api.Prod{Pid: -20 - i, Epoch: -30 - i, Next: -40 - i})
	}
	for i := range r {
		r[i].Seen = roomySeen(r[i].Seen)
	}
	return r[:len(l)]
}

// all returns a copy of all that a list reaches, spare room included.
func all(l []api.Prod) []api.Prod {
	l = slices.Clone(l[:cap(l)])
	for i := range l {
		l[i].Seen = slices.Clone(l[i].Seen[:cap(l[i].Seen)])
	}
	return l
}

// spoil overwrites all that a list reaches, spare room included, and tells whether no two of its lists share a place.
func spoil(l []api.Prod) bool {
	l = l[:cap(l)]
	n := 0
	for i := range l {
		for j := range l[i].Seen[:cap(l[i].Seen)] {
			n++
			l[i].Seen[:cap(l[i].Seen)][j] = api.Seen{Seq: -n, Count: -n, Base: -n}
		}
	}
	apart := true
	n = 0
	for i := range l {
		for _, s := range l[i].Seen[:cap(l[i].Seen)] {
			n++
			apart = apart && s.Seq == -n
		}
		l[i] = api.Prod{Pid: -99, Epoch: -99, Next: -99}
	}
	return apart
}

// watch makes a call twice, with a list that has spare room, and returns a copy of the list that it returns.
func watch(t *testing.T, name string, l []api.Prod, call func(l []api.Prod) []api.Prod) []api.Prod {
	t.Helper()
	given := roomy(l)
	was := all(given)
	one, two := call(given), call(given)
	result := copied(one)
	stays := func() bool { return reflect.DeepEqual(all(given), was) && len(given) == len(l) }
	switch {
	case !stays():
		t.Fatalf("%s changed its argument: %s", name, short(l))
	case !equal(two, result):
		t.Fatalf("%s answered %s, and then %s", name, short(result), short(two))
	case !spoil(one):
		t.Fatalf("%s: lists of one answer share memory: %s", name, short(result))
	case !equal(two, result):
		t.Fatalf("%s: two answers share memory: %s", name, short(result))
	case !stays():
		t.Fatalf("%s: the answer shares memory with the argument: %s", name, short(l))
	}
	return result
}

// roomyBatch returns a batch that is equal to b, with room behind its records, and a function that tells whether all of
// it is as it was.
func roomyBatch(b api.Batch) (api.Batch, func() bool) {
	records := slices.Concat(b.Records, []api.Record{{Key: "spare", Value: "room"}, {Key: "more"}})
	was := slices.Clone(records)
	b.Records = records[:len(b.Records)]
	return b, func() bool { return slices.Equal(records, was) }
}

// check calls Check.
func check(t *testing.T, l []api.Prod, b api.Batch) checked {
	t.Helper()
	b, stays := roomyBatch(b)
	var got []checked
	watch(t, "Check", l, func(l []api.Prod) []api.Prod {
		base, is, e := seqs.Check(l, b)
		got = append(got, checked{base, is, e})
		return nil
	})
	if got[0] != got[1] || !stays() {
		t.Fatalf("Check(%s, %s) = %v, and then %v", short(l), short(b), got[0], got[1])
	}
	return got[0]
}

// take calls Take.
func take(t *testing.T, l []api.Prod, b api.Batch, base int) ([]api.Prod, api.Errno) {
	t.Helper()
	b, stays := roomyBatch(b)
	var errs []api.Errno
	after := watch(t, "Take", l, func(l []api.Prod) []api.Prod {
		after, e := seqs.Take(l, b, base)
		errs = append(errs, e)
		return after
	})
	if errs[0] != errs[1] || !stays() {
		t.Fatalf("Take(%s, %s, %d): %v, and then %v", short(l), short(b), base, errs[0], errs[1])
	}
	return after, errs[0]
}

// find calls Find.
func find(t *testing.T, l []api.Prod, pid int) (api.Prod, bool) {
	t.Helper()
	there := false
	found := watch(t, "Find", l, func(l []api.Prod) []api.Prod {
		var p api.Prod
		p, there = seqs.Find(l, pid)
		return []api.Prod{p}
	})
	return found[0], there
}

// clearing calls Clear, with a list in which the producer is.
func clearing(t *testing.T, l []api.Prod, pid int) []api.Prod {
	t.Helper()
	return watch(t, "Clear", l, func(l []api.Prod) []api.Prod { return seqs.Clear(l, pid) })
}

// set calls Set.
func set(t *testing.T, l []api.Prod, p api.Prod) []api.Prod {
	t.Helper()
	seen := roomySeen(p.Seen)
	was := slices.Clone(seen[:cap(seen)])
	given := p
	given.Seen = seen
	after := watch(t, "Set", l, func(l []api.Prod) []api.Prod { return seqs.Set(l, given) })
	if !slices.Equal(seen[:cap(seen)], was) {
		t.Fatalf("Set(%s, %s) changed the producer, or shares memory with it", short(l), short(p))
	}
	return after
}

// may calls May.
func may(t *testing.T, l []api.Prod) bool {
	t.Helper()
	var got []bool
	watch(t, "May", l, func(l []api.Prod) []api.Prod {
		got = append(got, seqs.May(l))
		return nil
	})
	if got[0] != got[1] {
		t.Fatalf("May(%s) = %v, and then %v", short(l), got[0], got[1])
	}
	return got[0]
}

// same calls Same, both ways.
func same(t *testing.T, a, b []api.Prod) bool {
	t.Helper()
	var got []bool
	other := roomy(b)
	was := all(other)
	watch(t, "Same", a, func(l []api.Prod) []api.Prod {
		got = append(got, seqs.Same(l, other), seqs.Same(other, l))
		return nil
	})
	if !reflect.DeepEqual(all(other), was) || slices.Contains(got, !got[0]) {
		t.Fatalf("Same(%s, %s) = %v", short(a), short(b), got)
	}
	return got[0]
}
