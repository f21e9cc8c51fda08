package seqs_test

import (
	"fmt"
	"reflect"

	"roving/api"
)

// What stands here is written from the document's words, apart from how the program does it.

func within(n, least, most int) bool { return n >= least && n <= most }

// validProd tells whether a producer is valid (chapter 7).
func validProd(p api.Prod) bool {
	if !within(p.Pid, 1, 8) || !within(p.Epoch, 0, 100) || !within(p.Next, 0, 1<<20) || len(p.Seen) > 3 {
		return false
	}
	for _, s := range p.Seen {
		if !within(s.Seq, 0, 1<<20) || !within(s.Count, 1, 4) || !within(s.Base, -1, 1<<20) {
			return false
		}
	}
	for i, s := range p.Seen {
		following := p.Next
		if i+1 < len(p.Seen) {
			following = p.Seen[i+1].Seq
		}
		if s.Seq+s.Count > following {
			return false
		}
	}
	return true
}

// validList tells whether a list of producers is valid.
func validList(l []api.Prod) bool {
	for i, p := range l {
		if !validProd(p) || i > 0 && l[i-1].Pid >= p.Pid {
			return false
		}
	}
	return true
}

// validBatch tells whether a batch is valid (chapter 6).
func validBatch(b api.Batch) bool {
	for _, x := range b.Records {
		if len(x.Key) > 16 || len(x.Value) > 16 {
			return false
		}
	}
	n := len(b.Records)
	return within(b.Pid, 1, 8) && within(b.Epoch, 0, 100) && within(n, 1, 4) && within(b.Seq, 0, 1<<20) && b.Seq+n <= 1<<20
}

// known returns the producers of a valid list by their Pids.
func known(l []api.Prod) map[int]api.Prod {
	all := map[int]api.Prod{}
	for _, p := range l {
		all[p.Pid] = p
	}
	return all
}

// checked is what Check returns.
type checked struct {
	base int
	is   bool
	e    api.Errno
}

// wantedCheck returns what Check must return.
func wantedCheck(l []api.Prod, b api.Batch) checked {
	if !validList(l) || !validBatch(b) {
		return checked{e: 2}
	}
	p, there := known(l)[b.Pid]
	isNew := !there || b.Epoch > p.Epoch
	if !isNew && b.Epoch < p.Epoch {
		return checked{e: 100}
	}
	if !isNew {
		for _, s := range p.Seen {
			if s.Seq == b.Seq && s.Count == len(b.Records) {
				return checked{base: s.Base, is: true}
			}
		}
	}
	if isNew && b.Seq == 0 || !isNew && b.Seq == p.Next {
		return checked{base: -1}
	}
	return checked{e: 101}
}

// wantedTake returns what Take must return.
func wantedTake(l []api.Prod, b api.Batch, base int) ([]api.Prod, api.Errno) {
	c := wantedCheck(l, b)
	switch {
	case c.e == 2 || !within(base, -1, 1<<20):
		return nil, 2
	case c.e != 0:
		return nil, c.e
	case c.is:
		return nil, 101
	}
	all := known(l)
	p := all[b.Pid]
	var seen []api.Seen
	if p.Epoch == b.Epoch {
		seen = append(seen, p.Seen...)
	}
	seen = append(seen, api.Seen{Seq: b.Seq, Count: len(b.Records), Base: base})
	for len(seen) > 3 {
		seen = seen[1:]
	}
	all[b.Pid] = api.Prod{Pid: b.Pid, Epoch: b.Epoch, Next: b.Seq + len(b.Records), Seen: seen}
	var after []api.Prod
	for pid := 1; pid <= 8; pid++ {
		if p, there := all[pid]; there {
			after = append(after, p)
		}
	}
	return after, 0
}

// wantedFind returns what Find must return.
func wantedFind(l []api.Prod, pid int) (api.Prod, bool) {
	for _, p := range l {
		if p.Pid == pid {
			return p, true
		}
	}
	return api.Prod{}, false
}

// wantedClear returns what Clear must return.
func wantedClear(l []api.Prod, pid int) []api.Prod {
	var after []api.Prod
	done := false
	for _, p := range l {
		if p.Pid == pid && !done {
			p.Seen = nil
			done = true
		}
		after = append(after, p)
	}
	return after
}

// wantedSet returns what Set must return.
func wantedSet(l []api.Prod, p api.Prod) []api.Prod {
	var after []api.Prod
	done := false
	for _, x := range l {
		if !done && x.Pid >= p.Pid {
			after = append(after, p)
			done = true
			if x.Pid == p.Pid {
				continue
			}
		}
		after = append(after, x)
	}
	if !done {
		after = append(after, p)
	}
	return after
}

// copied returns a list that shares no memory with l, and in which none is nil.
func copied(l []api.Prod) []api.Prod {
	l = append([]api.Prod{}, l...)
	for i := range l {
		l[i].Seen = append([]api.Seen{}, l[i].Seen...)
	}
	return l
}

// equal tells whether two lists are equal; nil and empty mean the same.
func equal(a, b []api.Prod) bool { return reflect.DeepEqual(copied(a), copied(b)) }

// short returns the beginning of a value as text.
func short(x any) string { return fmt.Sprintf("%.400s", fmt.Sprintf("%+v", x)) }
