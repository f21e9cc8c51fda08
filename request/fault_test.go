package request

import (
	"errors"
	"testing"

	"roving/api"
)

// TestFaults: the error of a reading names the first field that is wrong, and wraps ErrCode.
func TestFaults(t *testing.T) { // P8.2
	for b, field := range map[string]string{
		"":                         "Kind",
		"\x0a":                     "Kind",
		"\x01\x03\x15":             "Tid",
		"\x01\x00\x00":             "Timeout",
		"\x02\x03\x00":             "Part",
		"\x02\x00\x00":             "B",
		"\x02\x00\x05":             "B",
		"\x03\x09":                 "Pid",
		"\x03\x01\x65":             "Epoch",
		"\x03\x01\x00\x02":         "Group",
		"\x03\x01\x00\x00\x03":     "Part",
		"\x03\x01\x00\x00\x00\x80": "Offset",
		"\x04\x01\x00\x02":         "Yes",
		"\x05\x00\x00\x41\x02":     "Most",
		"\x00\x00":                 "end",
	} {
		_, err := read([]byte(b))
		var f *fault
		if !errors.As(err, &f) || f.field != field || !errors.Is(err, api.ErrCode) || err.Error() != field+": error 70" {
			t.Errorf("read(% x): %v", b, err)
		}
	}
	if r, err := read([]byte("\x09")); err != nil || r.Kind != api.RqTick {
		t.Errorf("a tick: %v, %v", r, err)
	}
}
