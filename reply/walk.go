package reply

import (
	"strconv"

	"roving/api"
	"roving/fields"
)

// The fields of replies, in the order of their bytes.
const (
	pid = iota
	epoch
	offset
	rows
)

// steps returns how a walk gets past each field.
func steps() [rows + 1]func(*walk) {
	return [...]func(*walk){
		pid:    (*walk).pid,
		epoch:  (*walk).epoch,
		offset: (*walk).offset,
		rows:   (*walk).rows,
	}
}

// own tells which fields a reply has, by its kind and its error.
func own(r api.Reply) (has [rows + 1]bool) {
	if r.E != api.OK {
		return has
	}
	switch r.Kind {
	case api.RqInit:
		has[epoch] = true
		fallthrough
	case api.RqNew:
		has[pid] = true
	case api.RqFetch:
		has[rows] = true
		fallthrough
	case api.RqProduce, api.RqRead:
		has[offset] = true
	}
	return has
}

// fault is the error of a field that is not what it must be: it has the field's name, and wraps what is wrong with it.
type fault struct {
	field string
	err   error
}

func (f *fault) Error() string { return f.field + ": " + f.err.Error() }

func (f *fault) Unwrap() error { return f.err }

// pass is what a walk does with each field: it writes the one that it is given, or it reads one whatever it is given. It
// returns the field that is in the bytes then, and whether there is one.
type pass interface {
	number(n int) (int, bool)
	text(s string) (string, bool)
}

// walk goes through the fields of a reply, be it to write them or to read them: so their order and their ranges, which
// are the same for both, stand in one place.
type walk struct {
	by    pass
	wrong api.Errno // what a field is that is not what it must be
	from  api.Reply // what is written; empty if a reply is read
	to    api.Reply // with the fields that the walk has got past
	err   error     // the first fault
}

// write returns the bytes of a valid reply.
func write(r api.Reply) ([]byte, error) {
	p := new(writer)
	w := &walk{by: p, wrong: api.ErrArg, from: r}
	w.reply()
	if !Same(w.to, r) { // it has a field that its kind has not
		w.stop("rest")
	}
	if w.err != nil {
		return nil, w.err
	}
	return p.b, nil
}

// read returns the valid reply whose bytes are exactly b.
func read(b []byte) (api.Reply, error) {
	p := reader{fields.New(string(b))}
	w := &walk{by: p, wrong: api.ErrCode}
	w.reply()
	if p.End() != api.OK {
		w.stop("end")
	}
	if w.err != nil {
		return api.Reply{}, w.err
	}
	return w.to, nil
}

func (w *walk) reply() {
	w.to.Kind = number(w, "Kind", w.from.Kind, api.RqNew, api.RqTick)
	w.to.E = number(w, "E", w.from.E, api.OK, api.MaxErr)
	has := own(w.to)
	for field, step := range steps() {
		if has[field] && w.err == nil {
			step(w)
		}
	}
}

func (w *walk) pid() { w.to.Pid = number(w, "Pid", w.from.Pid, 1, api.MaxPids) }

func (w *walk) epoch() { w.to.Epoch = number(w, "Epoch", w.from.Epoch, 0, api.MaxEpoch) }

func (w *walk) offset() {
	least := none
	if w.to.Kind == api.RqFetch { // there is always a next one
		least = 0
	}
	w.to.Offset = w.place(w.from.Offset, least)
}

func (w *walk) rows() {
	n := number(w, "Rows", len(w.from.Rows), 0, api.MaxFetch)
	l := make([]api.Row, n) // they stay empty if a reply is read
	copy(l, w.from.Rows)
	for i, x := range l {
		w.to.Rows = append(w.to.Rows, w.row(x))
		if w.err != nil {
			w.err = &fault{"row " + strconv.Itoa(i), w.err}
			return
		}
	}
}

func (w *walk) row(x api.Row) api.Row {
	return api.Row{
		Offset: w.place(x.Offset, none),
		Pid:    number(w, "Pid", x.Pid, 1, api.MaxPids),
		Seq:    number(w, "Seq", x.Seq, 0, api.MaxSeq-1),
		Key:    w.text("Key", x.Key),
		Value:  w.text("Value", x.Value),
	}
}

// place gets past an offset. In the bytes it is counted from the least one: so it is a number even if it is none.
func (w *walk) place(n, least int) int {
	return number(w, "Offset", n-least, 0, api.MaxOffset-least) + least
}

// number gets past a number, and returns it if it is in its range.
func number[N ~int | ~int8](w *walk, field string, n, least, most N) N {
	x, ok := w.by.number(int(n))
	if !ok || x < int(least) || x > int(most) {
		w.stop(field)
		return 0
	}
	return N(x) // not before it is in its range, of which N has all
}

// text gets past a text, and returns it.
func (w *walk) text(field, s string) string {
	s, ok := w.by.text(s)
	if !ok || len(s) > api.MaxText {
		w.stop(field)
	}
	return s
}

// stop keeps the fault of a field that is wrong, unless one before it was.
func (w *walk) stop(field string) {
	if w.err == nil {
		w.err = &fault{field, w.wrong}
	}
}

// writer is the pass that writes.
type writer struct{ b []byte }

func (w *writer) number(n int) (int, bool) { return n, w.add(fields.Number(nil, n)) }

func (w *writer) text(s string) (string, bool) { return s, w.add(fields.Text(nil, s)) }

func (w *writer) add(field []byte, e api.Errno) bool {
	w.b = append(w.b, field...)
	return e == api.OK
}

// reader is the pass that reads.
type reader struct{ *fields.Reader }

func (r reader) number(int) (int, bool) {
	n := r.Number(0, api.MaxNumber)
	return n, !r.Bad
}

func (r reader) text(string) (string, bool) {
	s := r.Text(api.MaxLoad)
	return s, !r.Bad
}
