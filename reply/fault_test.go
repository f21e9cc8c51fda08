package reply

import (
	"errors"
	"strings"
	"testing"

	"roving/api"
)

// wantFault holds an error to its text, to the number that it wraps, and to the fields that it names one inside the other.
func wantFault(t *testing.T, err error, want api.Errno, fields ...string) {
	t.Helper()
	text := ""
	for _, field := range fields {
		text += field + ": "
	}
	if !errors.Is(err, want) || code(err) != want || err.Error() != text+want.Error() {
		t.Fatalf("%v; want %s%v", err, text, want)
	}
	for _, field := range fields {
		var f *fault
		if !errors.As(err, &f) || f.field != field {
			t.Fatalf("%v; want a fault of %s", err, field)
		}
		err = f.err
	}
}

// TestFaultsOfReading: the error of a reading names the first field that is wrong, and wraps ErrCode.
func TestFaultsOfReading(t *testing.T) { // P9.2
	for _, x := range []struct {
		b      string
		fields []string
	}{
		{"", []string{"Kind"}},
		{"\x0a\x00", []string{"Kind"}},
		{"\x01", []string{"E"}},
		{"\x01\x91\x03", []string{"E"}},
		{"\x01\x00\x09\x65", []string{"Pid"}},
		{"\x01\x00\x01\x65", []string{"Epoch"}},
		{"\x02\x00\x82\x80\x40", []string{"Offset"}},
		{"\x05\x00\x81\x80\x40\x41", []string{"Offset"}},
		{"\x05\x00\x81\x80\x40\x01\x00\x01\x00\x00\x00", []string{"Offset"}},
		{"\x0a\x91\x03\x00", []string{"Kind"}},
		{"\x05\x00\x00\x41", []string{"Rows"}},
		{"\x05\x00\x00\x01\x00\x09\x00", []string{"row 0", "Pid"}},
		{"\x05\x00\x00\x03\x00\x01\x00\x00\x00\x00\x01\x00\x11", []string{"row 1", "Key"}},
		{"\x05\x00\x00\x02\x00\x01\x00\x00\x00\x00\x01\x00\x00\x01", []string{"row 1", "Value"}},
		{"\x05\x00\x00\x01\x00\x01\x00\x11" + strings.Repeat("k", 17) + "\x11" + strings.Repeat("v", 17), []string{"row 0", "Key"}},
		{"\x09\x00\x00", []string{"end"}},
	} {
		r, err := read([]byte(x.b))
		wantFault(t, err, api.ErrCode, x.fields...)
		if !Same(r, api.Reply{}) {
			t.Errorf("read(% x): %v", x.b, r)
		}
	}
	if r, err := read([]byte("\x09\x00")); err != nil || r.Kind != api.RqTick || code(err) != api.OK {
		t.Errorf("a tick: %v, %v", r, err)
	}
}

// TestFaultsOfWriting: the error of a writing names the first field that is wrong, and wraps ErrArg.
func TestFaultsOfWriting(t *testing.T) { // P9.2
	good := api.Row{Pid: 1}
	for _, x := range []struct {
		r      api.Reply
		fields []string
	}{
		{api.Reply{Kind: 10, E: 401}, []string{"Kind"}},
		{api.Reply{E: 401}, []string{"E"}},
		{api.Reply{Kind: api.RqInit, Epoch: 101}, []string{"Pid"}},
		{api.Reply{Kind: api.RqInit, Pid: 1, Epoch: 101}, []string{"Epoch"}},
		{api.Reply{Kind: api.RqFetch, Offset: -1, Rows: make([]api.Row, 65)}, []string{"Offset"}},
		{api.Reply{Kind: api.RqFetch, Offset: -1, Rows: []api.Row{good}}, []string{"Offset"}},
		{api.Reply{Kind: api.RqFetch, Rows: make([]api.Row, 65)}, []string{"Rows"}},
		{api.Reply{Kind: api.RqFetch, Rows: []api.Row{good, {Offset: -2}}}, []string{"row 1", "Offset"}},
		{api.Reply{Kind: api.RqFetch, Rows: []api.Row{good, good, {Pid: 1, Seq: -1}, {}}}, []string{"row 2", "Seq"}},
		{api.Reply{Kind: api.RqTick, E: 400, Offset: -1}, []string{"rest"}},
	} {
		b, err := write(x.r)
		wantFault(t, err, api.ErrArg, x.fields...)
		if len(b) != 0 {
			t.Errorf("write(%v): % x", x.r, b)
		}
	}
	if b, err := write(api.Reply{Kind: api.RqTick}); err != nil || string(b) != "\x09\x00" {
		t.Errorf("a tick: % x, %v", b, err)
	}
}
