package request_test

import (
	"fmt"
	"reflect"
	"slices"

	"roving/api"
	"roving/record"
)

// What stands here is written from the document's words, apart from how the program does it. What a valid batch is, and
// its bytes, is layer 6's.

// kinds returns the document's table: for each kind, at the place of its number, its fields in their order.
func kinds() [10][]string {
	return [10][]string{
		api.RqNew:     {},
		api.RqInit:    {"Tid", "Timeout"},
		api.RqProduce: {"Part", "B"},
		api.RqOffsets: {"Pid", "Epoch", "Group", "Part", "Offset"},
		api.RqEnd:     {"Pid", "Epoch", "Yes"},
		api.RqFetch:   {"Part", "Offset", "Most", "Yes"},
		api.RqCommit:  {"Group", "Part", "Offset"},
		api.RqRead:    {"Group", "Part"},
		api.RqCut:     {"Part", "Offset"},
		api.RqTick:    {},
	}
}

// place is where a number stands in a request, and its range.
type place struct {
	name        string
	least, most int
	of          func(r *api.Req) *int
}

// places returns the places of all numbers but the kind.
func places() []place {
	return []place{
		{"Tid", 0, 2, func(r *api.Req) *int { return &r.Tid }},
		{"Timeout", 1, 20, func(r *api.Req) *int { return &r.Timeout }},
		{"Pid", 1, 8, func(r *api.Req) *int { return &r.Pid }},
		{"Epoch", 0, 100, func(r *api.Req) *int { return &r.Epoch }},
		{"Part", 0, 2, func(r *api.Req) *int { return &r.Part }},
		{"Group", 0, 1, func(r *api.Req) *int { return &r.Group }},
		{"Offset", 0, 1 << 20, func(r *api.Req) *int { return &r.Offset }},
		{"Most", 1, 64, func(r *api.Req) *int { return &r.Most }},
	}
}

// placeOf returns the place of the number of a name.
func placeOf(name string) place {
	l := places()
	return l[slices.IndexFunc(l, func(p place) bool { return p.name == name })]
}

// isKind tells whether a number is that of a kind.
func isKind(kind int8) bool { return kind >= 0 && kind <= 9 }

// has tells whether a kind has a field.
func has(kind int8, name string) bool { return slices.Contains(kinds()[kind], name) }

// valid tells whether a request is valid.
func valid(r api.Req) bool {
	if !isKind(r.Kind) {
		return false
	}
	for _, p := range places() {
		n := *p.of(&r)
		if has(r.Kind, p.name) && (n < p.least || n > p.most) || !has(r.Kind, p.name) && n != 0 {
			return false
		}
	}
	if r.Yes && !has(r.Kind, "Yes") {
		return false
	}
	if has(r.Kind, "B") {
		return record.May(r.B)
	}
	return equal(api.Req{B: r.B}, api.Req{})
}

// equal tells whether two requests are equal; nil and empty mean the same.
func equal(a, b api.Req) bool {
	for _, r := range []*api.Req{&a, &b} {
		r.B.Records = append([]api.Record{}, r.B.Records...)
	}
	return reflect.DeepEqual(a, b)
}

func isEmpty(r api.Req) bool { return equal(r, api.Req{}) }

// number returns the bytes of a number by division.
func number(n int) string {
	b := []byte{byte(n % 128)}
	for n /= 128; n > 0; n /= 128 {
		b[len(b)-1] += 128
		b = append(b, byte(n%128))
	}
	return string(b)
}

func text(s string) string { return number(len(s)) + s }

func flag(yes bool) string {
	if yes {
		return "\x01"
	}
	return "\x00"
}

// pieces returns the bytes of a request, of a kind that is one and with numbers that are not below 0, field by field,
// the kind first; of a batch that is not valid they are those of an empty text.
func pieces(r api.Req) []string {
	l := []string{number(int(r.Kind))}
	for _, name := range kinds()[r.Kind] {
		switch name {
		case "B":
			s, _ := record.Bytes(r.B)
			l = append(l, text(s))
		case "Yes":
			l = append(l, flag(r.Yes))
		default:
			l = append(l, number(*placeOf(name).of(&r)))
		}
	}
	return l
}

// written returns the bytes of a request of which pieces returns them.
func written(r api.Req) string {
	s := ""
	for _, piece := range pieces(r) {
		s += piece
	}
	return s
}

// numberAt returns the number that s begins with, and what is behind it.
func numberAt(s string) (n int, rest string, ok bool) {
	for i, c := range []byte(s[:min(len(s), 8)]) {
		n += int(c%128) << (7 * i)
		if c < 128 {
			return n, s[i+1:], (c > 0 || i == 0) && n <= 1<<40
		}
	}
	return 0, "", false
}

// taken returns the valid request whose bytes are s, and whether there is one.
func taken(s string) (api.Req, bool) {
	kind, s, ok := numberAt(s)
	if !ok || kind > 9 {
		return api.Req{}, false
	}
	r := api.Req{Kind: int8(kind)}
	for _, name := range kinds()[kind] {
		var n int
		if n, s, ok = numberAt(s); !ok {
			return api.Req{}, false
		}
		switch name {
		case "B":
			if n > len(s) {
				return api.Req{}, false
			}
			r.B, _ = record.Read(s[:n]) // the empty one, if it is none, is not valid
			s = s[n:]
		case "Yes":
			if n > 1 {
				return api.Req{}, false
			}
			r.Yes = n == 1
		default:
			*placeOf(name).of(&r) = n
		}
	}
	if s != "" || !valid(r) {
		return api.Req{}, false
	}
	return r, true
}

// short returns the beginning of a value as text.
func short(x any) string { return fmt.Sprintf("%.300s", fmt.Sprintf("%+q", x)) }

// letters returns a text of n bytes that are not all the same, and of which some are beyond ASCII, or 0.
func letters(n int) string {
	b := make([]byte, n)
	for i := range b {
		b[i] = byte(i*37 + n)
	}
	return string(b)
}
