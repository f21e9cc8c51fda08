package reply_test

import (
	"fmt"
	"slices"
	"strings"

	"roving/api"
)

// What stands here is written from the document's words, apart from how the program does it.

// isKind tells whether a number is that of a kind.
func isKind(kind int8) bool { return kind >= 0 && kind <= 9 }

// fieldsOf returns the document's table: the fields of a kind, in their order; of an offset that may be -1 with a sign.
func fieldsOf(kind int8) []string {
	return [10][]string{
		api.RqNew:     {"Pid"},
		api.RqInit:    {"Pid", "Epoch"},
		api.RqProduce: {"-Offset"},
		api.RqFetch:   {"Offset", "Rows"},
		api.RqRead:    {"-Offset"},
	}[kind]
}

// has tells whether a kind has a field.
func has(kind int8, name string) bool {
	return isKind(kind) && (slices.Contains(fieldsOf(kind), name) || slices.Contains(fieldsOf(kind), "-"+name))
}

func isIn(n, least, most int) bool { return n >= least && n <= most }

// valid tells whether a reply is valid.
func valid(r api.Reply) bool {
	if !isKind(r.Kind) || !isIn(int(r.E), 0, 400) {
		return false
	}
	bare := api.Reply{Kind: r.Kind, E: r.E}
	if r.E != 0 {
		return equal(r, bare)
	}
	right := true
	for _, name := range fieldsOf(r.Kind) {
		switch name {
		case "Pid":
			bare.Pid = r.Pid
			right = right && isIn(r.Pid, 1, 8)
		case "Epoch":
			bare.Epoch = r.Epoch
			right = right && isIn(r.Epoch, 0, 100)
		case "Offset":
			bare.Offset = r.Offset
			right = right && isIn(r.Offset, 0, 1<<20)
		case "-Offset":
			bare.Offset = r.Offset
			right = right && isIn(r.Offset, -1, 1<<20)
		case "Rows":
			bare.Rows = r.Rows
			right = right && len(r.Rows) <= 64 && !slices.ContainsFunc(r.Rows, isWrong)
		}
	}
	return right && equal(r, bare)
}

// isWrong tells whether a row is none that a valid reply may have.
func isWrong(x api.Row) bool {
	return !isIn(x.Offset, -1, 1<<20) || !isIn(x.Pid, 1, 8) || !isIn(x.Seq, 0, 1<<20-1) || len(x.Key) > 16 || len(x.Value) > 16
}

// equal tells whether two replies are equal; nil and empty mean the same.
func equal(a, b api.Reply) bool {
	if len(a.Rows) != len(b.Rows) {
		return false
	}
	for i := range a.Rows {
		if a.Rows[i] != b.Rows[i] {
			return false
		}
	}
	return [5]int{int(a.Kind), int(a.E), a.Pid, a.Epoch, a.Offset} == [5]int{int(b.Kind), int(b.E), b.Pid, b.Epoch, b.Offset}
}

// alike tells whether two replies are equal apart from offsets.
func alike(a, b api.Reply) bool {
	if (a.Offset == -1) != (b.Offset == -1) || len(a.Rows) != len(b.Rows) {
		return false
	}
	a.Offset = b.Offset
	rows := slices.Clone(a.Rows)
	for i, x := range b.Rows {
		if (rows[i].Offset == -1) != (x.Offset == -1) {
			return false
		}
		rows[i].Offset = x.Offset
	}
	a.Rows = rows
	return equal(a, b)
}

func isEmpty(r api.Reply) bool { return equal(r, api.Reply{}) }

// number returns the bytes of a number by division.
func number(n int) string {
	b := []byte{byte(n % 128)}
	for n /= 128; n > 0; n /= 128 {
		b[len(b)-1] += 128
		b = append(b, byte(n%128))
	}
	return string(b)
}

// piece is a number, or what stands in a text behind the number of its bytes.
type piece struct {
	isNumber bool
	b        string
}

func numberPiece(n int) piece { return piece{true, number(n)} }

func textPieces(s string) []piece { return []piece{numberPiece(len(s)), {b: s}} }

// rowPieces returns the bytes of a row whose numbers can be written.
func rowPieces(x api.Row) []piece {
	l := []piece{numberPiece(x.Offset + 1), numberPiece(x.Pid), numberPiece(x.Seq)}
	l = append(l, textPieces(x.Key)...)
	return append(l, textPieces(x.Value)...)
}

// pieces returns the bytes of a reply, piece by piece. It has a kind, and numbers that can be written; valid it need not
// be otherwise.
func pieces(r api.Reply) []piece {
	l := []piece{numberPiece(int(r.Kind)), numberPiece(int(r.E))}
	if r.E != 0 {
		return l
	}
	for _, name := range fieldsOf(r.Kind) {
		switch name {
		case "Pid":
			l = append(l, numberPiece(r.Pid))
		case "Epoch":
			l = append(l, numberPiece(r.Epoch))
		case "Offset":
			l = append(l, numberPiece(r.Offset))
		case "-Offset":
			l = append(l, numberPiece(r.Offset+1))
		case "Rows":
			l = append(l, numberPiece(len(r.Rows)))
			for _, x := range r.Rows {
				l = append(l, rowPieces(x)...)
			}
		}
	}
	return l
}

func joined(l []piece) string {
	var s strings.Builder
	for _, x := range l {
		s.WriteString(x.b)
	}
	return s.String()
}

// written returns the bytes of a reply of which pieces returns them.
func written(r api.Reply) string { return joined(pieces(r)) }

// taker takes fields from the beginning of what is left; Bad says that there were others than it was asked for.
type taker struct {
	left string
	bad  bool
}

func (t *taker) number() int {
	n := 0
	for i, c := range []byte(t.left[:min(len(t.left), 8)]) {
		n += int(c%128) << (7 * i)
		if c < 128 {
			t.left = t.left[i+1:]
			t.bad = t.bad || c == 0 && i > 0 || n > 1<<40
			return n
		}
	}
	t.bad = true
	return 0
}

func (t *taker) text() string {
	n := t.number()
	if n > len(t.left) {
		t.bad = true
		return ""
	}
	s := t.left[:n]
	t.left = t.left[n:]
	return s
}

// taken returns the valid reply whose bytes are s, and whether there is one.
func taken(s string) (api.Reply, bool) {
	t := &taker{left: s}
	kind := t.number()
	r := api.Reply{E: api.Errno(t.number())}
	if t.bad || kind > 9 {
		return api.Reply{}, false
	}
	r.Kind = int8(kind)
	if r.E == 0 {
		t.fields(&r)
	}
	if t.bad || t.left != "" || !valid(r) {
		return api.Reply{}, false
	}
	return r, true
}

// fields takes the fields of a reply of a kind.
func (t *taker) fields(r *api.Reply) {
	for _, name := range fieldsOf(r.Kind) {
		switch name {
		case "Pid":
			r.Pid = t.number()
		case "Epoch":
			r.Epoch = t.number()
		case "Offset":
			r.Offset = t.number()
		case "-Offset":
			r.Offset = t.number() - 1
		case "Rows":
			for n := t.number(); n > 0 && !t.bad; n-- {
				x := api.Row{Offset: t.number() - 1}
				x.Pid = t.number()
				x.Seq = t.number()
				x.Key = t.text()
				x.Value = t.text()
				r.Rows = append(r.Rows, x)
			}
		}
	}
}

// short returns the beginning of a value as text.
func short(x any) string { return fmt.Sprintf("%.300s", fmt.Sprintf("%+q", x)) }

// letters returns a text of n bytes that are not all the same, and of which some are beyond ASCII, or 0.
func letters(n int) string {
	b := make([]byte, n)
	for i := range b {
		b[i] = byte(i*37 + n)
	}
	return string(b)
}
