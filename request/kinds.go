package request

import (
	"roving/api"
	"roving/fields"
	"roving/record"
)

// fault is the error of a field that is not what it must be: it has the field's name, and wraps the error's number.
type fault struct {
	field string
	e     api.Errno
}

func (f *fault) Error() string { return f.field + ": " + f.e.Error() }

func (f *fault) Unwrap() error { return f.e }

// check returns the error of a field, if there is one.
func check(field string, e api.Errno) error {
	if e == api.OK {
		return nil
	}
	return &fault{field, e}
}

// reader reads the fields of a request, each to its place.
type reader struct {
	*fields.Reader
	x api.Req // with what was read so far
}

// read returns the valid request whose bytes are exactly b.
func read(b []byte) (api.Req, error) {
	r := &reader{Reader: fields.New(string(b))}
	if err := r.kind(); err != nil {
		return api.Req{}, err
	}
	for _, next := range r.list() {
		if err := next(); err != nil {
			return api.Req{}, err
		}
	}
	return r.x, nil
}

// list returns what reads the fields of a request of the kind that was read, and the end behind them.
func (r *reader) list() []func() error {
	var l []func() error
	switch r.x.Kind {
	case api.RqInit:
		l = append(l, r.tid, r.timeout)
	case api.RqProduce:
		l = append(l, r.part, r.batch)
	case api.RqOffsets:
		l = append(l, r.pid, r.epoch)
		fallthrough
	case api.RqCommit:
		l = append(l, r.group)
		fallthrough
	case api.RqCut:
		l = append(l, r.part, r.offset)
	case api.RqEnd:
		l = append(l, r.pid, r.epoch, r.yes)
	case api.RqFetch:
		l = append(l, r.part, r.offset, r.most, r.yes)
	case api.RqRead:
		l = append(l, r.group, r.part)
	}
	return append(l, r.end)
}

func (r *reader) kind() error {
	var kind int
	err := r.number("Kind", &kind, int(api.RqNew), int(api.RqTick))
	r.x.Kind = int8(kind)
	return err
}

func (r *reader) tid() error     { return r.number("Tid", &r.x.Tid, 0, api.Tids-1) }
func (r *reader) timeout() error { return r.number("Timeout", &r.x.Timeout, 1, api.MaxTimeout) }
func (r *reader) pid() error     { return r.number("Pid", &r.x.Pid, 1, api.MaxPids) }
func (r *reader) epoch() error   { return r.number("Epoch", &r.x.Epoch, 0, api.MaxEpoch) }
func (r *reader) part() error    { return r.number("Part", &r.x.Part, 0, api.Parts-1) }
func (r *reader) group() error   { return r.number("Group", &r.x.Group, 0, api.Groups-1) }
func (r *reader) offset() error  { return r.number("Offset", &r.x.Offset, 0, api.MaxOffset) }
func (r *reader) most() error    { return r.number("Most", &r.x.Most, 1, api.MaxFetch) }

func (r *reader) yes() error {
	r.x.Yes = r.Flag()
	return check("Yes", r.stopped())
}

func (r *reader) batch() error {
	// A reader that is stopped by a wrong text returns an empty one, which is no batch either.
	b, e := record.Read(r.Text(api.MaxLoad))
	r.x.B = b
	return check("B", e)
}

func (r *reader) end() error { return check("end", r.End()) }

func (r *reader) number(field string, place *int, least, most int) error {
	*place = r.Number(least, most)
	return check(field, r.stopped())
}

// stopped returns the error of what was read last.
func (r *reader) stopped() api.Errno {
	if r.Bad {
		return api.ErrCode
	}
	return api.OK
}

// writer writes the fields of a request, one after another.
type writer struct{ b []byte }

// written returns the bytes of a valid request. For any other one it returns some that are not read as that request:
// so it need not tell what had no bytes.
func written(x api.Req) []byte {
	w := new(writer)
	w.numbers(int(x.Kind))
	switch x.Kind {
	case api.RqInit:
		w.numbers(x.Tid, x.Timeout)
	case api.RqProduce:
		w.numbers(x.Part)
		w.batch(x.B)
	case api.RqOffsets:
		w.numbers(x.Pid, x.Epoch)
		fallthrough
	case api.RqCommit:
		w.numbers(x.Group)
		fallthrough
	case api.RqCut:
		w.numbers(x.Part, x.Offset)
	case api.RqEnd:
		w.numbers(x.Pid, x.Epoch)
		w.flag(x.Yes)
	case api.RqFetch:
		w.numbers(x.Part, x.Offset, x.Most)
		w.flag(x.Yes)
	case api.RqRead:
		w.numbers(x.Group, x.Part)
	}
	return w.b
}

func (w *writer) numbers(l ...int) {
	for _, n := range l {
		w.b, _ = fields.Number(w.b, n)
	}
}

func (w *writer) flag(yes bool) { w.b = fields.Flag(w.b, yes) }

func (w *writer) batch(b api.Batch) {
	s, _ := record.Bytes(b)
	w.b, _ = fields.Text(w.b, s)
}
