package entry

import (
	"roving/api"
	"roving/fields"
	"roving/record"
)

// kind is how the fields of entries of one kind are written and read.
type kind struct {
	write func(*writer, api.Entry)
	read  func(reader) api.Entry
}

// kinds returns the kinds of entries, each at its number.
func kinds() [api.EnState + 1]kind {
	return [...]kind{
		api.EnData:  {(*writer).data, reader.data},
		api.EnMark:  {(*writer).mark, reader.mark},
		api.EnCut:   {(*writer).cut, reader.cut},
		api.EnCopy:  {(*writer).copied, reader.copied},
		api.EnDrop:  {(*writer).drop, reader.drop},
		api.EnRow:   {(*writer).row, reader.row},
		api.EnState: {(*writer).state, reader.state},
	}
}

// writer writes the fields of an entry that is valid, so that each of them can be written.
type writer struct{ b []byte }

func (w *writer) numbers(l ...int) {
	for _, n := range l {
		w.b, _ = fields.Number(w.b, n)
	}
}

func (w *writer) texts(l ...string) {
	for _, s := range l {
		w.b, _ = fields.Text(w.b, s)
	}
}

func (w *writer) flag(yes bool) { w.b = fields.Flag(w.b, yes) }

// reader reads the fields of an entry, in the order in which a writer writes them.
type reader struct{ *fields.Reader }

// number reads a number; whether it is in its range is told by May, of the whole entry.
func (r reader) number() int { return r.Number(0, api.MaxNumber) }

// producer reads who a producer is.
func (r reader) producer() api.Batch { return api.Batch{Pid: r.number(), Epoch: r.number()} }

func (w *writer) data(x api.Entry) {
	s, _ := record.Bytes(x.B)
	w.b = append(w.b, s...)
}

func (r reader) data() api.Entry { return api.Entry{B: record.Take(r.Reader)} }

func (w *writer) mark(x api.Entry) {
	w.numbers(x.B.Pid, x.B.Epoch)
	w.flag(x.Yes)
}

func (r reader) mark() api.Entry { return api.Entry{B: r.producer(), Yes: r.Flag()} }

func (w *writer) cut(x api.Entry) { w.numbers(x.Offset) }

func (r reader) cut() api.Entry { return api.Entry{Offset: r.number()} }

func (w *writer) copied(x api.Entry) {
	w.data(x)
	w.flag(x.Yes)
	if x.Yes {
		w.numbers(x.Next)
	}
}

func (r reader) copied() api.Entry {
	x := r.data()
	x.Yes = r.Flag()
	if x.Yes {
		x.Next = r.number()
	}
	return x
}

func (w *writer) drop(x api.Entry) { w.numbers(x.B.Pid, x.B.Epoch, x.Next) }

func (r reader) drop() api.Entry { return api.Entry{B: r.producer(), Next: r.number()} }

func (w *writer) row(x api.Entry) {
	w.numbers(x.Row.Pid, x.Row.Seq)
	w.texts(x.Row.Key, x.Row.Value)
}

func (r reader) row() api.Entry {
	return api.Entry{Row: api.Row{Pid: r.number(), Seq: r.number(), Key: r.Text(api.MaxText), Value: r.Text(api.MaxText)}}
}

// A batch's offset is written greater by one: so it is a number even if there is none yet.
func (w *writer) state(x api.Entry) {
	p := x.Prod
	w.numbers(p.Pid, p.Epoch, p.Next, len(p.Seen))
	for _, s := range p.Seen {
		w.numbers(s.Seq, s.Count, s.Base+1)
	}
}

func (r reader) state() api.Entry {
	p := api.Prod{Pid: r.number(), Epoch: r.number(), Next: r.number()}
	for range r.Number(0, api.Window) { // in its range already here: a greater one would be gone through all the same
		p.Seen = append(p.Seen, api.Seen{Seq: r.number(), Count: r.number(), Base: r.number() - 1})
	}
	return api.Entry{Prod: p}
}
