package entry_test

import (
	"fmt"
	"math/big"
	"reflect"

	"roving/api"
)

// What stands here is written from the document's words, apart from how the program does it.

// number returns the bytes of a number by division.
func number(n int) string {
	b := []byte{byte(n % 128)}
	for n /= 128; n > 0; n /= 128 {
		b[len(b)-1] += 128
		b = append(b, byte(n%128))
	}
	return string(b)
}

func text(s string) string { return number(len(s)) + s }

func flag(yes bool) string {
	if yes {
		return "\x01"
	}
	return "\x00"
}

func writtenBatch(b api.Batch) string {
	s := number(b.Pid) + number(b.Epoch) + number(b.Seq) + flag(b.Txn) + number(len(b.Records))
	for _, x := range b.Records {
		s += text(x.Key) + text(x.Value)
	}
	return s
}

// written returns the bytes of an entry whose numbers are not below 0, whether or not it is valid.
func written(x api.Entry) string {
	who := number(x.B.Pid) + number(x.B.Epoch)
	s := number(int(x.Kind))
	switch x.Kind {
	case 0:
		s += writtenBatch(x.B)
	case 1:
		s += who + flag(x.Yes)
	case 2:
		s += number(x.Offset)
	case 3:
		s += writtenBatch(x.B) + flag(x.Yes)
		if x.Yes {
			s += number(x.Next)
		}
	case 4:
		s += who + number(x.Next)
	case 5:
		s += number(x.Row.Pid) + number(x.Row.Seq) + text(x.Row.Key) + text(x.Row.Value)
	case 6:
		s += number(x.Prod.Pid) + number(x.Prod.Epoch) + number(x.Prod.Next) + number(len(x.Prod.Seen))
		for _, seen := range x.Prod.Seen {
			s += number(seen.Seq) + number(seen.Count) + number(seen.Base+1)
		}
	}
	return s
}

// atMost tells whether a + b is at most c, without an overflow.
func atMost(a, b, c int) bool {
	sum := new(big.Int).Add(big.NewInt(int64(a)), big.NewInt(int64(b)))
	return sum.Cmp(big.NewInt(int64(c))) <= 0
}

func validBatch(b api.Batch) bool {
	for _, x := range b.Records {
		if len(x.Key) > 16 || len(x.Value) > 16 {
			return false
		}
	}
	return validName(b.Pid, b.Epoch) && b.Seq >= 0 && len(b.Records) >= 1 && len(b.Records) <= 4 &&
		atMost(b.Seq, len(b.Records), 1<<20)
}

func validName(pid, epoch int) bool { return pid >= 1 && pid <= 8 && epoch >= 0 && epoch <= 100 }

func validNext(next int) bool { return next >= 0 && next <= 1<<20 }

func validProd(p api.Prod) bool {
	if !validName(p.Pid, p.Epoch) || !validNext(p.Next) || len(p.Seen) > 3 {
		return false
	}
	for i, s := range p.Seen {
		following := p.Next
		if i+1 < len(p.Seen) {
			following = p.Seen[i+1].Seq
		}
		if s.Seq < 0 || s.Count < 1 || s.Count > 4 || s.Base < -1 || s.Base > 1<<20 || !atMost(s.Seq, s.Count, following) {
			return false
		}
	}
	return true
}

// valid tells whether an entry is valid.
func valid(x api.Entry) bool {
	ok := false
	only := api.Entry{Kind: x.Kind} // with the fields that are mentioned for its kind
	switch x.Kind {
	case 0:
		ok = validBatch(x.B)
		only.B = x.B
	case 1:
		ok = validName(x.B.Pid, x.B.Epoch)
		only.B.Pid, only.B.Epoch, only.Yes = x.B.Pid, x.B.Epoch, x.Yes
	case 2:
		ok = x.Offset >= 0 && x.Offset <= 1<<20
		only.Offset = x.Offset
	case 3:
		ok = validBatch(x.B) && x.B.Txn && (x.Yes && validNext(x.Next) || x.Next == 0)
		only.B, only.Yes, only.Next = x.B, x.Yes, x.Next
	case 4:
		ok = validName(x.B.Pid, x.B.Epoch) && validNext(x.Next)
		only.B.Pid, only.B.Epoch, only.Next = x.B.Pid, x.B.Epoch, x.Next
	case 5:
		ok = x.Row.Pid >= 1 && x.Row.Pid <= 8 && x.Row.Seq >= 0 && x.Row.Seq <= 1<<20-1 &&
			len(x.Row.Key) <= 16 && len(x.Row.Value) <= 16 && x.Row.Offset == 0
		only.Row = x.Row
	case 6:
		ok = validProd(x.Prod)
		only.Prod = x.Prod
	}
	return ok && equal(x, only)
}

// equal tells whether two entries are equal; nil and empty mean the same.
func equal(a, b api.Entry) bool {
	for _, x := range []*api.Entry{&a, &b} {
		x.B.Records = append([]api.Record{}, x.B.Records...)
		x.Prod.Seen = append([]api.Seen{}, x.Prod.Seen...)
	}
	return reflect.DeepEqual(a, b)
}

func isEmpty(x api.Entry) bool { return equal(x, api.Entry{}) }

// taker reads fields.
type taker struct {
	b   string
	bad bool
}

func (k *taker) number() int {
	n := 0
	for size := 0; !k.bad; size++ {
		if size >= len(k.b) || size > 8 {
			k.bad = true
			break
		}
		c := int(k.b[size])
		n += c % 128 << (7 * size)
		if c < 128 {
			k.bad = c == 0 && size > 0 || n > 1<<40
			k.b = k.b[size+1:]
			return n
		}
	}
	return 0
}

func (k *taker) text() string {
	n := k.number()
	if k.bad || n > len(k.b) {
		k.bad = true
		return ""
	}
	s := k.b[:n]
	k.b = k.b[n:]
	return s
}

func (k *taker) flag() bool {
	n := k.number()
	k.bad = k.bad || n > 1
	return n == 1
}

// count reads a number of elements that is at most a handful in whatever is valid.
func (k *taker) count() int {
	n := k.number()
	k.bad = k.bad || n > 9
	if k.bad {
		return 0
	}
	return n
}

func (k *taker) batch() api.Batch {
	var b api.Batch
	b.Pid = k.number()
	b.Epoch = k.number()
	b.Seq = k.number()
	b.Txn = k.flag()
	for n := k.count(); n > 0; n-- {
		key := k.text()
		b.Records = append(b.Records, api.Record{Key: key, Value: k.text()})
	}
	return b
}

// taken returns the valid entry whose bytes are s, and whether there is one.
func taken(s string) (api.Entry, bool) {
	k := &taker{b: s}
	kind := k.number()
	x := api.Entry{Kind: int8(kind % 100)}
	switch kind {
	case 0:
		x.B = k.batch()
	case 1:
		x.B.Pid = k.number()
		x.B.Epoch = k.number()
		x.Yes = k.flag()
	case 2:
		x.Offset = k.number()
	case 3:
		x.B = k.batch()
		x.Yes = k.flag()
		if x.Yes {
			x.Next = k.number()
		}
	case 4:
		x.B.Pid = k.number()
		x.B.Epoch = k.number()
		x.Next = k.number()
	case 5:
		x.Row.Pid = k.number()
		x.Row.Seq = k.number()
		x.Row.Key = k.text()
		x.Row.Value = k.text()
	case 6:
		x.Prod.Pid = k.number()
		x.Prod.Epoch = k.number()
		x.Prod.Next = k.number()
		for n := k.count(); n > 0; n-- {
			seq := k.number()
			count := k.number()
			x.Prod.Seen = append(x.Prod.Seen, api.Seen{Seq: seq, Count: count, Base: k.number() - 1})
		}
	default:
		return api.Entry{}, false
	}
	if k.bad || k.b != "" || !valid(x) {
		return api.Entry{}, false
	}
	return x, true
}

// short returns the beginning of a value as text.
func short(x any) string { return fmt.Sprintf("%.300s", fmt.Sprintf("%+q", x)) }

// letters returns a text of n bytes that are not all the same, and of which some are beyond ASCII, or 0.
func letters(n int) string {
	b := make([]byte, n)
	for i := range b {
		b[i] = byte(i*37 + n)
	}
	return string(b)
}
