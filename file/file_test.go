package file_test

import (
	"encoding/binary"
	"errors"
	"fmt"
	"maps"
	"math"
	"reflect"
	"slices"
	"strconv"
	"strings"
	"testing"

	"roving/api"
	"roving/disk"
	"roving/file"
)

// framed returns the frame of a load, apart from how the program makes it, whether or not it is too long for one.
func framed(load string) string {
	return string(binary.LittleEndian.AppendUint32(nil, uint32(len(load)))) + load
}

// together returns the frames of loads, one after another.
func together(loads ...string) string {
	b := ""
	for _, load := range loads {
		b += framed(load)
	}
	return b
}

// letters returns a text of n bytes that are not all the same.
func letters(n int) string {
	b := make([]byte, n)
	for i := range b {
		b[i] = byte(i*7 + i/256)
	}
	return string(b)
}

func of(name, b string, sure int) api.File { return api.File{Name: name, B: b, Sure: sure} }

// unarmed returns a disk that is up and does not go down.
func unarmed(most int, files ...api.File) api.Disk {
	return api.Disk{Files: files, Cap: most, Left: -1}
}

func armed(d api.Disk, left int) api.Disk {
	d.Left = left
	return d
}

func downed(d api.Disk) api.Disk {
	d.Down = true
	return d
}

func appends(name, b string) api.Write { return api.Write{Op: api.WrAppend, File: name, B: b} }

func syncs(name string) api.Write { return api.Write{Op: api.WrSync, File: name} }

func replaces(name, b string) api.Write { return api.Write{Op: api.WrReplace, File: name, B: b} }

func shortens(name string, n int) api.Write {
	return api.Write{Op: api.WrShorten, File: name, N: n}
}

func deletes(name string) api.Write { return api.Write{Op: api.WrDelete, File: name} }

// equal tells whether two disks are equal, apart from how the program tells it; nil and empty mean the same.
func equal(a, b api.Disk) bool {
	return reflect.DeepEqual(append([]api.File{}, a.Files...), append([]api.File{}, b.Files...)) &&
		a.Cap == b.Cap && a.Left == b.Left && a.Down == b.Down
}

// short returns the beginning of a value as text.
func short(x any) string { return fmt.Sprintf("%.200s", fmt.Sprintf("%q", x)) }

// wantDisk holds what Do, Put or Mend returned, without a fault, to a disk.
func wantDisk(t *testing.T, what string, got api.Disk, err error, want api.Disk) {
	t.Helper()
	if err != nil || !equal(got, want) {
		t.Errorf("%s: %s, %v; want %s", what, short(got), err, short(want))
	}
}

// wantFault holds what Do, Put or Mend returned to a disk and a fault.
func wantFault(t *testing.T, what string, got api.Disk, err error, want api.Disk, fault file.Fault) {
	t.Helper()
	if !equal(got, want) {
		t.Errorf("%s: %s, %v; want %s", what, short(got), err, short(want))
	}
	var f *file.Fault
	if err == nil || !errors.As(err, &f) || *f != fault {
		t.Errorf("%s: the fault is %v, %v; want %v", what, err, f, fault)
		return
	}
	var e api.Errno
	if !errors.As(err, &e) || e != fault.E || file.Code(err) != fault.E {
		t.Errorf("%s: errors.As finds %v, Code %v; want %v", what, e, file.Code(err), fault.E)
	}
	for _, e := range []api.Errno{api.OK, api.ErrArg, api.ErrLong, api.ErrDown, api.ErrFull, api.ErrFile, api.ErrCode} {
		if errors.Is(err, e) != (e == fault.E) {
			t.Errorf("%s: errors.Is of %v and %v = %v", what, err, e, errors.Is(err, e))
		}
	}
	if text := "file: " + fault.File + ": error " + strconv.Itoa(int(fault.E)); err.Error() != text {
		t.Errorf("%s: the text is %q; want %q", what, err.Error(), text)
	}
}

// lists returns lists of loads.
func lists() [][]string {
	l := [][]string{
		{"abc"}, {""}, {"", "", ""}, {"abc", "d"}, {"abc", "abc"}, {"", "abc"}, {"abc", ""}, {"a", "", "b"},
		{letters(1024)}, {letters(1024), letters(1023), letters(1024)}, {letters(256), "", letters(255)},
		{framed("a"), "b"}, {"\x01\x00\x00\x00", "b"}, {"\xff\xff\xff\xff"}, {"\x00", "\x00\x00\x00\x00", "é"},
	}
	var many []string
	for i := range 300 {
		many = append(many, letters(i%9))
	}
	return append(l, many)
}

// tails returns bytes with which no frame begins.
func tails() []string {
	return []string{
		"\x00", "\x01\x00", "\x00\x00\x00", "\xff\xff\xff", "a", framed("ab")[:5], framed("ab")[:4], "\xff\xff\xff\xff",
		framed(letters(1024))[:1027], framed(letters(1024))[:4], framed(letters(1025)), framed(letters(1025)) + framed("x"),
	}
}

// wantLoads holds what Loads returns of a file to loads and to how many bytes are torn.
func wantLoads(t *testing.T, what string, d api.Disk, name string, loads []string, torn int) {
	t.Helper()
	got, gotTorn := file.Loads(d, name)
	if !slices.Equal(got, loads) || gotTorn != torn {
		t.Errorf("%s: Loads of %q = %s, %d; want %s, %d", what, name, short(got), gotTorn, short(loads), torn)
	}
}

func TestLoads(t *testing.T) { // P5.1
	for _, l := range append(lists(), nil) {
		for _, tail := range append(tails(), "") {
			b := together(l...) + tail
			if b == "" {
				continue // no file has no bytes
			}
			for _, sure := range []int{0, len(b) / 2, len(b)} { // what is not sure is there as well
				for _, d := range []api.Disk{
					unarmed(api.MaxCap, of("k", b, sure)),
					unarmed(api.MaxCap, of("k", b, sure), of("kk", framed("other"), 0)),
					unarmed(api.MaxCap, of("a", framed("other"), 0), of("k", b, sure)),
					unarmed(api.MaxCap, of("a", framed("other"), 0), of("k", b, sure), of("z", "torn", 4)),
				} {
					wantLoads(t, "a file", d, "k", l, len(tail))
					wantLoads(t, "a file on a disk that is armed", armed(d, 0), "k", l, len(tail))
					wantLoads(t, "a file on a disk that is down", downed(d), "k", l, len(tail))
				}
			}
		}
	}
}

func TestLoadsOfNoFile(t *testing.T) { // P5.1
	for _, d := range []api.Disk{{}, unarmed(0), unarmed(99), unarmed(99, of("k", framed("a"), 5), of("m", "torn", 1)), downed(unarmed(99, of("k", framed("a"), 5)))} {
		for _, name := range []string{"", "a", "kk", "l", "z", "K", "k ", "no/name", "abcdefghi", "\xff"} {
			if l, torn := file.Loads(d, name); len(l) != 0 || torn != 0 {
				t.Errorf("Loads of %s, %q = %q, %d", short(d), name, l, torn)
			}
		}
	}
}

// many returns a disk with room for a file a00 and n - 1 further ones, of a byte each.
func many(n int) api.Disk {
	d := unarmed(1 << 16)
	for i := range n {
		d.Files = append(d.Files, of(fmt.Sprintf("a%02d", i), "t", 0))
	}
	return d
}

// noDisks returns disks that are not valid.
func noDisks() map[string]api.Disk {
	a := of("a", framed("x")+"t", 2)
	m := map[string]api.Disk{
		"two files of one name":    unarmed(99, a, of("a", framed("y"), 0)),
		"names out of order":       unarmed(99, of("b", framed("y"), 0), a),
		"a file without bytes":     unarmed(99, of("a", "", 0), of("b", framed("y"), 0)),
		"a name that is none":      unarmed(99, of("A", framed("y"), 0), a),
		"an empty name":            unarmed(99, of("", framed("y")+"tt", 0), a),
		"a name of 9 bytes":        unarmed(99, a, of("abcdefghi", framed("y"), 0)),
		"Sure below 0":             unarmed(99, of("a", framed("x")+"t", -1)),
		"Sure above the bytes":     unarmed(99, of("a", framed("x")+"t", 99)),
		"a Cap below 0":            unarmed(-1, a),
		"a Cap above 2^16":         unarmed(1<<16+1, a),
		"no Cap":                   {Files: []api.File{a}},
		"a Cap of too few bytes":   unarmed(5, a),
		"Cap and Left of 2^63 - 1": {Files: []api.File{a}, Cap: math.MaxInt, Left: math.MaxInt},
		"65 files":                 many(65),
	}
	for _, what := range slices.Collect(maps.Keys(m)) { // they are none when they are down or armed, either
		m[what+", down"] = downed(m[what])
		m[what+", Left 0"] = armed(m[what], 0)
	}
	return m
}

func TestLoadsOfWhatIsNotValid(t *testing.T) { // P5.1
	for what, d := range noDisks() {
		seen := map[string]bool{}
		for _, f := range d.Files {
			if seen[f.Name] {
				continue // the first one of a name counts
			}
			seen[f.Name] = true
			switch f.B {
			case framed("x") + "t":
				wantLoads(t, what, d, f.Name, []string{"x"}, 1)
			case framed("y") + "tt":
				wantLoads(t, what, d, f.Name, []string{"y"}, 2)
			case framed("y"):
				wantLoads(t, what, d, f.Name, []string{"y"}, 0)
			case "":
				wantLoads(t, what, d, f.Name, nil, 0)
			case "t":
				wantLoads(t, what, d, f.Name, nil, 1)
			default:
				t.Fatalf("%s: a file of %q", what, f.B)
			}
		}
		wantLoads(t, what, d, "q", nil, 0)
	}
}

func TestLoadsOfTheExample(t *testing.T) { // P5.1
	half := framed("half")[:3]
	wantLoads(t, "the example", unarmed(99, of("f", framed("x")+half, 0)), "f", []string{"x"}, len(half))
}

func TestBytes(t *testing.T) { // P5.1
	for _, l := range append(lists(), nil, []string{}) {
		b, e := file.Bytes(l)
		if e != api.OK || b != together(l...) {
			t.Errorf("Bytes of %s = %s, %v", short(l), short(b), e)
		}
		if b != "" {
			wantLoads(t, "what Bytes returns", unarmed(api.MaxCap, of("f", b, 0)), "f", l, 0)
		}
	}
	if b, e := file.Bytes([]string{"", "a", "bc"}); e != api.OK || b != "\x00\x00\x00\x00\x01\x00\x00\x00a\x02\x00\x00\x00bc" {
		t.Errorf("Bytes = %q, %v", b, e)
	}
	for n := range 1025 {
		if b, e := file.Bytes([]string{"a", letters(n)}); e != api.OK || b != framed("a")+framed(letters(n)) {
			t.Errorf("Bytes of a load of %d bytes = %s, %v", n, short(b), e)
		}
	}
}

func TestBytesOfMore(t *testing.T) { // P5.1: more than a disk has room for
	l := slices.Repeat([]string{letters(1024)}, 200)
	if b, e := file.Bytes(l); e != api.OK || b != strings.Repeat(framed(letters(1024)), 200) {
		t.Errorf("Bytes of 200 loads = %s, %v", short(b), e)
	}
}

// tooLong returns lists with one load that is too long, or several.
func tooLong() [][]string {
	var l [][]string
	for _, n := range []int{1025, 1026, 1028, 1029, 2048, 1 << 16, 1 << 20} {
		long := letters(n)
		l = append(l, []string{long}, []string{long, "a"}, []string{"a", long}, []string{"a", long, "b"}, []string{"", letters(1024), long}, []string{long, long})
	}
	return l
}

func TestBytesOfWhatIsTooLong(t *testing.T) { // P5.1
	for _, l := range tooLong() {
		if b, e := file.Bytes(l); e != api.ErrArg || b != "" {
			t.Errorf("Bytes of %s = %s, %v", short(l), short(b), e)
		}
	}
}

func TestNoOperations(t *testing.T) { // P5.2
	m := noDisks()
	m["empty"], m["nothing"] = unarmed(9), api.Disk{}
	m["a file"] = unarmed(9, of("a", framed("x")+"t", 2))
	m["armed"], m["down"], m["both"] = armed(m["a file"], 0), downed(m["a file"]), downed(armed(m["a file"], 0))
	m["armed with 7"], m["Left -2^63"] = armed(m["a file"], 7), armed(m["a file"], math.MinInt)
	for what, d := range m {
		for _, l := range [][]api.Write{nil, {}} {
			got, err := file.Do(d, l)
			wantDisk(t, what, got, err, d)
		}
	}
}

func TestOperations(t *testing.T) { // P5.2
	d := unarmed(20, of("b", "pq", 1), of("k", "xyz", 1))
	for _, x := range []struct {
		l    []api.Write
		want []api.File
	}{
		{[]api.Write{appends("k", "12")}, []api.File{of("b", "pq", 1), of("k", "xyz12", 1)}},
		{[]api.Write{syncs("k")}, []api.File{of("b", "pq", 1), of("k", "xyz", 3)}},
		{[]api.Write{replaces("k", "1")}, []api.File{of("b", "pq", 1), of("k", "1", 1)}},
		{[]api.Write{shortens("k", 2)}, []api.File{of("b", "pq", 1), of("k", "xy", 2)}},
		{[]api.Write{deletes("k")}, []api.File{of("b", "pq", 1)}},
		{[]api.Write{appends("k", "12"), syncs("k"), appends("k", "3")}, []api.File{of("b", "pq", 1), of("k", "xyz123", 5)}},
		{[]api.Write{deletes("b"), deletes("k")}, nil},
		{[]api.Write{deletes("b"), appends("b", "1"), appends("a", "2"), syncs("b")}, []api.File{of("a", "2", 0), of("b", "1", 1), of("k", "xyz", 1)}},
		{[]api.Write{shortens("k", 1), appends("k", "1"), shortens("k", 0), replaces("b", "123")}, []api.File{of("b", "123", 3)}},
		{slices.Repeat([]api.Write{appends("k", "1")}, 15), []api.File{of("b", "pq", 1), of("k", "xyz"+strings.Repeat("1", 15), 1)}},
	} {
		got, err := file.Do(d, x.l)
		wantDisk(t, short(x.l), got, err, unarmed(20, x.want...))
	}
}

// failing is an operation that fails on the disk of TestEachFault, and its error.
type failing struct {
	w api.Write
	e api.Errno
}

func failings() []failing {
	return []failing{
		{api.Write{Op: -1, File: "k"}, api.ErrArg}, {api.Write{Op: 5, File: "k"}, api.ErrArg}, {api.Write{Op: math.MinInt8}, api.ErrArg},
		{api.Write{}, api.ErrArg}, {appends("k", ""), api.ErrArg}, {replaces("k", ""), api.ErrArg}, {appends("K", "x"), api.ErrArg},
		{syncs(""), api.ErrArg}, {deletes("no name"), api.ErrArg}, {shortens("k", -1), api.ErrArg}, {shortens("k", 99), api.ErrArg},
		{api.Write{Op: api.WrSync, File: "k", N: 1}, api.ErrArg}, {api.Write{Op: api.WrDelete, File: "k", B: "x"}, api.ErrArg},
		{syncs("no"), api.ErrFile}, {shortens("no", 0), api.ErrFile}, {deletes("no"), api.ErrFile},
		{appends("zzz", "x"), api.ErrLong}, {replaces("zzz", "x"), api.ErrLong}, {appends("zzz", strings.Repeat("x", 999)), api.ErrLong},
		{appends("k", strings.Repeat("x", 999)), api.ErrFull}, {replaces("k", strings.Repeat("x", 999)), api.ErrFull},
	}
}

// TestEachFault: each error, at the first operation, in the midst and at the last one.
func TestEachFault(t *testing.T) { // P5.2, P5.3
	d := unarmed(99, append(many(63).Files, of("k", "xyz", 1))...)
	done := []api.Write{appends("k", "1"), syncs("k"), replaces("a00", "ab"), appends("k", "2"), shortens("a01", 1)}
	for _, x := range failings() {
		for n := range len(done) + 1 {
			for _, rest := range [][]api.Write{nil, {syncs("k")}, {appends("k", "9"), deletes("k")}, {x.w, x.w}} {
				want := d
				for _, w := range done[:n] {
					want, _ = disk.Do(want, w)
				}
				got, err := file.Do(d, slices.Concat(done[:n], []api.Write{x.w}, rest))
				wantFault(t, fmt.Sprintf("%v behind %d", x.w, n), got, err, want, file.Fault{Op: x.w.Op, File: x.w.File, E: x.e})
			}
		}
	}
}

func TestOperationsOnWhatIsNotValid(t *testing.T) { // P5.2
	for what, d := range noDisks() {
		for _, w := range []api.Write{appends("a", "x"), syncs("a"), replaces("b", "x"), shortens("a", 0), deletes("no"), appends("A", "x"), {Op: 7}} {
			for _, l := range [][]api.Write{{w}, {w, syncs("a")}} {
				got, err := file.Do(d, l)
				wantFault(t, what, got, err, d, file.Fault{Op: w.Op, File: w.File, E: api.ErrArg})
			}
		}
	}
}

// TestDiskThatGoesDown: armed with each number, it goes down at the operation behind as many that are done.
func TestDiskThatGoesDown(t *testing.T) { // P5.2, P5.3
	d := unarmed(99, of("a", "xyz", 1), of("b", "pq", 2))
	l := []api.Write{appends("a", "1"), syncs("a"), replaces("c", "23"), shortens("a", 2), deletes("b"), appends("d", "4")}
	for n := 0; n <= len(l)+1; n++ {
		want := armed(d, n)
		for _, w := range l[:min(n, len(l))] {
			want, _ = disk.Do(want, w)
		}
		got, err := file.Do(armed(d, n), l)
		if n >= len(l) {
			wantDisk(t, fmt.Sprint("armed with ", n), got, err, want)
			if got.Left != n-len(l) || got.Down {
				t.Errorf("armed with %d: Left %d, Down %v", n, got.Left, got.Down)
			}
			continue
		}
		want.Down = true
		wantFault(t, fmt.Sprint("armed with ", n), got, err, want, file.Fault{Op: l[n].Op, File: l[n].File, E: api.ErrDown})
		if want.Left != 0 {
			t.Errorf("armed with %d: Left %d", n, want.Left)
		}
	}
}

// TestFaultOfADiskThatIsArmed: what is no operation is ErrArg ahead of the disk's going down; other errors are behind it.
func TestFaultOfADiskThatIsArmed(t *testing.T) { // P5.2
	d := armed(unarmed(9, of("a", "xyz", 1)), 1)
	after := armed(unarmed(9, of("a", "xyz", 3)), 0)
	got, err := file.Do(d, []api.Write{syncs("a"), appends("a", "")})
	wantFault(t, "no operation", got, err, after, file.Fault{Op: api.WrAppend, File: "a", E: api.ErrArg})
	for _, w := range []api.Write{syncs("no"), appends("a", "0123456789"), shortens("a", 4)} {
		got, err := file.Do(d, []api.Write{syncs("a"), w})
		wantFault(t, short(w), got, err, downed(after), file.Fault{Op: w.Op, File: w.File, E: api.ErrDown})
	}
}

func TestDiskThatIsDown(t *testing.T) { // P5.2, P5.3
	for _, left := range []int{math.MinInt, -1, 0, 1, 7} {
		d := downed(armed(unarmed(9, of("a", "xyz", 1)), left))
		for _, w := range []api.Write{appends("a", "1"), syncs("a"), replaces("a", "1"), shortens("a", 1), deletes("a"), syncs("no"), appends("a", "0123456789")} {
			got, err := file.Do(d, []api.Write{w, syncs("a")})
			wantFault(t, short(w), got, err, d, file.Fault{Op: w.Op, File: w.File, E: api.ErrDown})
		}
		got, err := file.Do(d, []api.Write{appends("a", ""), syncs("a")})
		wantFault(t, "no operation", got, err, d, file.Fault{Op: api.WrAppend, File: "a", E: api.ErrArg})
	}
}

// reference does operations one after another by the words of the document.
func reference(d api.Disk, l []api.Write) (api.Disk, *file.Fault) {
	for _, w := range l {
		after, e := disk.Do(d, w)
		if e == api.OK {
			d = after
			continue
		}
		if e == api.ErrDown {
			d.Down = true
		}
		return d, &file.Fault{Op: w.Op, File: w.File, E: e}
	}
	return d, nil
}

// TestAllShortLists: all lists of up to three operations, on some disks.
func TestAllShortLists(t *testing.T) { // P5.2
	all := []api.Write{
		appends("a", "1"), appends("b", "234"), syncs("a"), syncs("b"), replaces("a", "56"), replaces("b", "7"),
		shortens("a", 0), shortens("a", 1), shortens("b", 2), deletes("a"), deletes("b"), appends("c", ""), {Op: 9, File: "a"},
	}
	var disks []api.Disk
	for _, left := range []int{-1, 0, 1, 2, 3} {
		for _, d := range []api.Disk{unarmed(0), unarmed(4), unarmed(6, of("a", "xyz", 1)), unarmed(5, of("a", "xy", 2), of("b", "p", 0)), unarmed(1, of("a", "xyz", 1))} {
			disks = append(disks, armed(d, left), downed(armed(d, left)))
		}
	}
	lists := [][]api.Write{nil}
	for n := 0; n <= 3; n++ {
		var longer [][]api.Write
		for _, l := range lists {
			for _, d := range disks {
				want, fault := reference(d, l)
				got, err := file.Do(d, l)
				var f *file.Fault
				if errors.As(err, &f) != (fault != nil) || f != nil && *f != *fault || fault == nil && err != nil || !equal(got, want) {
					t.Fatalf("%v on %v = %v, %v; want %v, %v", l, d, got, err, want, fault)
				}
			}
			for _, w := range all {
				longer = append(longer, append(l[:len(l):len(l)], w))
			}
		}
		lists = longer
	}
}

func TestPut(t *testing.T) { // P5.2
	other, last := of("b", "pq", 1), of("z", framed("last"), 3)
	for _, l := range lists() {
		b := together(l...)
		for _, old := range []string{"", framed("old"), "torn", framed("old") + "t"} {
			d, want := unarmed(api.MaxCap, other), unarmed(api.MaxCap, other, of("k", old+b, len(old+b)), last)
			if old != "" {
				d.Files = append(d.Files, of("k", old, len(old)/2))
			}
			d.Files = append(d.Files, last)
			got, err := file.Put(d, "k", l)
			wantDisk(t, "Put "+short(l), got, err, want)
			got, err = file.Put(armed(d, 2), "k", l)
			wantDisk(t, "Put on an armed disk "+short(l), got, err, armed(want, 0))
		}
	}
	got, err := file.Put(unarmed(5), "k", []string{"a"})
	wantDisk(t, "Put that just fits", got, err, unarmed(5, of("k", framed("a"), 5)))
	got, err = file.Put(unarmed(14, of("k", framed("a"), 2)), "m", []string{"b", ""})
	wantDisk(t, "Put beside it that just fits", got, err, unarmed(14, of("k", framed("a"), 2), of("m", framed("b")+framed(""), 9)))
}

func TestPutOfNothing(t *testing.T) { // P5.2, P5.3
	d := unarmed(99, of("k", framed("a"), 5))
	m := noDisks()
	m["valid"], m["armed"], m["armed with 1"], m["down"], m["empty"], m["full"] = d, armed(d, 0), armed(d, 1), downed(d), unarmed(0), unarmed(5, d.Files...)
	for what, d := range m {
		for _, name := range []string{"k", "new", "", "no/name"} {
			for _, l := range append(tooLong()[:12], nil, []string{}) {
				got, err := file.Put(d, name, l)
				wantFault(t, what, got, err, d, file.Fault{Op: api.WrAppend, File: name, E: api.ErrArg})
			}
		}
	}
}

func TestPutThatFails(t *testing.T) { // P5.2, P5.3
	d := unarmed(14, of("k", framed("a"), 2))
	l := []string{"b"}
	for what, x := range map[string]struct {
		d    api.Disk
		name string
		l    []string
		want api.Disk
		f    file.Fault
	}{
		"no room":                 {d, "k", []string{"bcdefg"}, d, file.Fault{Op: api.WrAppend, File: "k", E: api.ErrFull}},
		"no room for the second":  {d, "m", []string{"b", "c"}, d, file.Fault{Op: api.WrAppend, File: "m", E: api.ErrFull}},
		"no room at all":          {unarmed(0), "k", l, unarmed(0), file.Fault{Op: api.WrAppend, File: "k", E: api.ErrFull}},
		"down ahead":              {downed(d), "k", l, downed(d), file.Fault{Op: api.WrAppend, File: "k", E: api.ErrDown}},
		"down at the append":      {armed(d, 0), "k", l, downed(armed(d, 0)), file.Fault{Op: api.WrAppend, File: "k", E: api.ErrDown}},
		"down at the sync":        {armed(d, 1), "k", l, downed(armed(unarmed(14, of("k", framed("a")+framed("b"), 2)), 0)), file.Fault{Op: api.WrSync, File: "k", E: api.ErrDown}},
		"down at a new sync":      {armed(d, 1), "a", l, downed(armed(unarmed(14, of("a", framed("b"), 0), of("k", framed("a"), 2)), 0)), file.Fault{Op: api.WrSync, File: "a", E: api.ErrDown}},
		"no name":                 {d, "K", l, d, file.Fault{Op: api.WrAppend, File: "K", E: api.ErrArg}},
		"no name, and down":       {downed(d), "", l, downed(d), file.Fault{Op: api.WrAppend, File: "", E: api.ErrArg}},
		"no disk":                 {api.Disk{Cap: -1}, "k", l, api.Disk{Cap: -1}, file.Fault{Op: api.WrAppend, File: "k", E: api.ErrArg}},
		"armed, and no room then": {armed(d, 1), "k", []string{"bcdefg"}, armed(d, 1), file.Fault{Op: api.WrAppend, File: "k", E: api.ErrFull}},
		"armed with 0, no room":   {armed(d, 0), "k", []string{"bcdefg"}, downed(armed(d, 0)), file.Fault{Op: api.WrAppend, File: "k", E: api.ErrDown}},
	} {
		got, err := file.Put(x.d, x.name, x.l)
		wantFault(t, what, got, err, x.want, x.f)
	}
	got, err := file.Put(many(64), "b", l)
	wantFault(t, "a file too many", got, err, many(64), file.Fault{Op: api.WrAppend, File: "b", E: api.ErrLong})
}

func TestMend(t *testing.T) { // P5.2
	other, last := of("b", "torn", 1), of("z", framed("last")+"t", 3)
	for _, l := range append(lists(), nil) {
		for _, tail := range append(tails(), "") {
			b := together(l...)
			if b+tail == "" {
				continue
			}
			for _, sure := range []int{0, len(b) / 2, len(b), len(b + tail)} {
				d := unarmed(api.MaxCap, other, of("k", b+tail, sure), last)
				want := d
				switch {
				case tail != "" && b == "":
					want = unarmed(api.MaxCap, other, last)
				case tail != "":
					want = unarmed(api.MaxCap, other, of("k", b, len(b)), last)
				}
				got, err := file.Mend(d, "k")
				wantDisk(t, "Mend of "+short(b+tail), got, err, want)
				wantLoads(t, "mended", got, "k", l, 0)
				again, err := file.Mend(got, "k")
				wantDisk(t, "mended again", again, err, got)
			}
		}
	}
}

func TestMendOfWhatIsNotTorn(t *testing.T) { // P5.2
	whole := unarmed(99, of("k", framed("a"), 0), of("z", "torn", 0))
	m := noDisks()
	m["valid"], m["armed"], m["armed with 1"], m["down"], m["empty"] = whole, armed(whole, 0), armed(whole, 1), downed(whole), unarmed(0)
	for what, d := range m {
		names := []string{"q", "no/name"}
		for _, f := range d.Files {
			if _, torn := file.Loads(d, f.Name); torn == 0 {
				names = append(names, f.Name)
			}
		}
		for _, name := range names {
			got, err := file.Mend(d, name)
			wantDisk(t, what+", "+name, got, err, d)
		}
	}
}

func TestMendThatFails(t *testing.T) { // P5.2, P5.3
	d := unarmed(99, of("k", framed("a")+"torn", 1), of("z", "torn", 4))
	mended := map[string]api.Disk{
		"k": unarmed(99, of("k", framed("a"), 5), of("z", "torn", 4)),
		"z": unarmed(99, of("k", framed("a")+"torn", 1)),
	}
	for name, want := range mended {
		got, err := file.Mend(armed(d, 0), name)
		wantFault(t, "down at it", got, err, downed(armed(d, 0)), file.Fault{Op: api.WrShorten, File: name, E: api.ErrDown})
		got, err = file.Mend(downed(d), name)
		wantFault(t, "down ahead", got, err, downed(d), file.Fault{Op: api.WrShorten, File: name, E: api.ErrDown})
		got, err = file.Mend(armed(d, 1), name)
		wantDisk(t, "armed with 1", got, err, armed(want, 0))
		got, err = file.Mend(armed(d, 2), name)
		wantDisk(t, "armed with 2", got, err, armed(want, 1))
	}
	for what, d := range noDisks() {
		for _, f := range d.Files {
			if _, torn := file.Loads(d, f.Name); torn > 0 {
				got, err := file.Mend(d, f.Name)
				wantFault(t, what+", "+f.Name, got, err, d, file.Fault{Op: api.WrShorten, File: f.Name, E: api.ErrArg})
			}
		}
	}
}

// wraps is an error that wraps another one.
type wraps struct{ err error }

func (w wraps) Error() string { return "wraps" }
func (w wraps) Unwrap() error { return w.err }

// several is an error that wraps several.
type several []error

func (s several) Error() string   { return "several" }
func (s several) Unwrap() []error { return s }

func TestCode(t *testing.T) { // P5.3
	other := errors.New("other")
	full := &file.Fault{Op: api.WrAppend, File: "f", E: api.ErrFull}
	down := &file.Fault{Op: api.WrSync, File: "g", E: api.ErrDown}
	for i, x := range []struct {
		err  error
		want api.Errno
	}{
		{nil, api.OK}, {api.OK, api.OK}, {api.ErrArg, api.ErrArg}, {api.ErrTag, api.ErrTag}, {api.Errno(-7), -7}, {api.Errno(math.MaxInt), math.MaxInt},
		{full, api.ErrFull}, {down, api.ErrDown}, {&file.Fault{}, api.OK}, {&file.Fault{E: api.ErrEnd}, api.ErrEnd},
		{wraps{full}, api.ErrFull}, {wraps{wraps{down}}, api.ErrDown}, {wraps{api.ErrLong}, api.ErrLong}, {&wraps{wraps{api.ErrLong}}, api.ErrLong},
		{fmt.Errorf("so: %w", full), api.ErrFull}, {fmt.Errorf("so: %w", fmt.Errorf("so: %w", down)), api.ErrDown},
		{several{full, down}, api.ErrFull}, {several{down, full}, api.ErrDown}, {several{other, down}, api.ErrDown}, {several{nil, other, wraps{other}, wraps{full}, down}, api.ErrFull},
		{several{wraps{several{other, api.ErrState}}, full}, api.ErrState}, {wraps{several{other, wraps{down}}}, api.ErrDown}, {errors.Join(other, full, down), api.ErrFull},
		{fmt.Errorf("%w and %w", down, full), api.ErrDown},
		{other, api.ErrArg}, {wraps{other}, api.ErrArg}, {wraps{nil}, api.ErrArg}, {several{}, api.ErrArg}, {several{nil, other}, api.ErrArg}, {fmt.Errorf("error %d", 31), api.ErrArg},
		{fmt.Errorf("not wrapped: %v", full), api.ErrArg},
	} {
		if e := file.Code(x.err); e != x.want {
			t.Errorf("%d: Code(%v) = %v; want %v", i, x.err, e, x.want)
		}
	}
	for e := range api.MaxErr + 1 {
		if file.Code(e) != e || file.Code(wraps{&file.Fault{E: e}}) != e {
			t.Errorf("Code of %v = %v, %v", e, file.Code(e), file.Code(wraps{&file.Fault{E: e}}))
		}
	}
}

func TestFaults(t *testing.T) { // P5.3
	for _, e := range []api.Errno{api.OK, api.ErrArg, api.ErrLong, api.ErrDown, api.ErrFull, api.ErrFile, api.ErrTag, -3, math.MaxInt, math.MinInt} {
		for _, name := range []string{"", "f", "meta.0", "no name: ", "\xff"} {
			for _, op := range []int8{api.WrAppend, api.WrSync, api.WrReplace, api.WrShorten, api.WrDelete, -1, 99} {
				f := &file.Fault{Op: op, File: name, E: e}
				if want := "file: " + name + ": error " + strconv.Itoa(int(e)); f.Error() != want {
					t.Errorf("Error of %v = %q", *f, f.Error())
				}
				if got, ok := f.Unwrap().(api.Errno); !ok || got != e {
					t.Errorf("Unwrap of %v = %v", *f, f.Unwrap())
				}
				if !errors.Is(f, e) || errors.Is(f, e+1) {
					t.Errorf("errors.Is of %v and %v = %v; one more %v", *f, e, errors.Is(f, e), errors.Is(f, e+1))
				}
			}
		}
	}
	if text := (&file.Fault{Op: api.WrSync, File: "a.log", E: api.ErrFull}).Error(); text != "file: a.log: error 31" {
		t.Errorf("Error = %q", text)
	}
}

func TestNoFault(t *testing.T) { // R1
	var f *file.Fault
	if f.Error() != "" || f.Unwrap() != nil {
		t.Errorf("of a nil Fault: %q, %v", f.Error(), f.Unwrap())
	}
	file.Code(f)
}

// TestCrashes: loads that were put, and more that were only appended, whole or in part; of each number of bytes that a
// crash keeps, the loads that were sure are there, and behind them whole ones alone.
func TestCrashes(t *testing.T) { // P5.4
	putLists := [][]string{nil, {"abc"}, {"", "abc", "d"}, {letters(300), "x"}}
	behindLists := [][]string{nil, {"e"}, {"", "fg", ""}, {letters(40), "hij", framed("k")}}
	for _, put := range putLists {
		for _, behind := range behindLists {
			for _, tail := range []string{"", "\x05\x00", framed("torn")[:6]} {
				d := unarmed(4000, of("a", "torn", 2), of("z", framed("last"), 3))
				if len(put) > 0 {
					d = mustPut(t, d, put[:1])
					if len(put) > 1 {
						d = mustPut(t, d, put[1:])
					}
				}
				for _, b := range []string{together(behind...), tail} {
					if b != "" {
						d, _ = disk.Do(d, appends("k", b))
					}
				}
				crashes(t, d, put, behind, len(together(behind...)+tail))
			}
		}
	}
}

func mustPut(t *testing.T, d api.Disk, l []string) api.Disk {
	t.Helper()
	after, err := file.Put(d, "k", l)
	if err != nil {
		t.Fatal(err)
	}
	return after
}

// crashes holds each crash of a disk to the loads that its file k has then, mended and put to, too.
func crashes(t *testing.T, d api.Disk, put, behind []string, unsure int) {
	t.Helper()
	all := slices.Concat(put, behind)
	for keep := 0; keep <= unsure+1; keep++ {
		kept := []int{9, keep, 9}
		after, e := disk.Crash(d, kept)
		if e != api.OK {
			t.Fatal(e)
		}
		loads, torn := file.Loads(after, "k")
		whole := len(put)
		for whole < len(all) && len(together(all[len(put):whole+1]...)) <= keep {
			whole++
		}
		rest := min(keep, unsure) - len(together(all[len(put):whole]...))
		if !slices.Equal(loads, all[:whole]) || torn != rest {
			t.Errorf("%d of %d bytes kept: %s, %d; want %s, %d", keep, unsure, short(loads), torn, short(all[:whole]), rest)
		}
		mended, err := file.Mend(after, "k")
		if err != nil {
			t.Error(err)
		}
		wantLoads(t, "mended", mended, "k", all[:whole], 0)
		again := mustPut(t, mended, []string{"new", ""})
		wantLoads(t, "put behind", again, "k", append(all[:whole:whole], "new", ""), 0)
		again, _ = disk.Crash(again, nil)
		wantLoads(t, "put behind, and crashed", again, "k", append(all[:whole:whole], "new", ""), 0)
	}
}

// TestCrashesOfAPut: a disk that goes down at each operation of three Puts, and of each number of bytes that is kept.
func TestCrashesOfAPut(t *testing.T) { // P5.4
	puts := [][]string{{"abc"}, {"d", ""}, {letters(9)}}
	all := slices.Concat(puts...)
	for left := range 7 {
		d, acked := armed(unarmed(999), left), 0
		for _, l := range puts {
			after, err := file.Put(d, "k", l)
			d = after
			if err != nil {
				break
			}
			acked += len(l)
		}
		for keep := range 40 {
			after, _ := disk.Crash(d, []int{keep})
			loads, torn := file.Loads(after, "k")
			if len(loads) < acked || len(loads) > len(all) || !slices.Equal(loads, all[:len(loads)]) {
				t.Errorf("down after %d, %d kept: %q, %d; %d were sure", left, keep, loads, torn, acked)
			}
			mended, err := file.Mend(after, "k")
			if err != nil {
				t.Error(err)
			}
			wantLoads(t, "mended", mended, "k", loads, 0)
			wantLoads(t, "put behind", mustPut(t, mended, []string{"new"}), "k", append(loads, "new"), 0)
		}
	}
}

// spare returns a disk with the same files in a list that has room behind it, and that room.
func spare(d api.Disk) (api.Disk, []api.File) {
	l := make([]api.File, len(d.Files), len(d.Files)+4)
	copy(l, d.Files)
	d.Files = l
	return d, l[len(l):cap(l)]
}

// calls returns all ways to make a disk of one with a file k that is torn.
func calls() map[string]func(d api.Disk) (api.Disk, error) {
	do := func(l ...api.Write) func(d api.Disk) (api.Disk, error) {
		return func(d api.Disk) (api.Disk, error) { return file.Do(d, l) }
	}
	put := func(name string, l ...string) func(d api.Disk) (api.Disk, error) {
		return func(d api.Disk) (api.Disk, error) { return file.Put(d, name, l) }
	}
	mend := func(name string) func(d api.Disk) (api.Disk, error) {
		return func(d api.Disk) (api.Disk, error) { return file.Mend(d, name) }
	}
	return map[string]func(d api.Disk) (api.Disk, error){
		"Do nothing": do(), "Do one": do(syncs("k")), "Do many": do(appends("a", "x"), deletes("k"), appends("z", "x")),
		"Do what fails": do(syncs("no")), "Do what fails then": do(appends("a", "x"), syncs("no"), syncs("a")),
		"Put": put("k", "x"), "Put new": put("a", "x", "y"), "Put nothing": put("k"), "Put what is too long": put("k", letters(1025)),
		"Put without room": put("k", letters(1000)), "Mend": mend("k"), "Mend what is whole": mend("m"), "Mend no file": mend("no"),
	}
}

// TestDisksAreNew: what is made of a disk that was returned changes neither the one handed in nor another answer.
func TestDisksAreNew(t *testing.T) { // R4
	up := unarmed(99, of("k", framed("a")+"torn", 2), of("m", framed("b"), 1))
	for _, d := range []api.Disk{up, armed(up, 0), armed(up, 1), downed(up), unarmed(3, up.Files...), unarmed(99, of("m", "x", 1), of("k", "torn", 0)), unarmed(99), {}} {
		for what, call := range calls() {
			in, room := spare(d)
			want, wantErr := call(d)
			want.Files = slices.Clone(want.Files)
			one, err := call(in)
			two, _ := call(in)
			if (err == nil) != (wantErr == nil) || !equal(one, want) || !equal(two, want) || !equal(in, d) || slices.ContainsFunc(room, func(f api.File) bool { return f != api.File{} }) {
				t.Errorf("%s: %s, %s of %s; the argument is %s, and behind it %s", what, short(one), short(two), short(d), short(in), short(room))
			}
			for i := range one.Files[:cap(one.Files)] {
				one.Files[:cap(one.Files)][i] = of("spoilt", "spoilt", 9)
			}
			if !equal(two, want) || !equal(in, d) || slices.Contains(room, of("spoilt", "spoilt", 9)) {
				t.Errorf("%s: a disk shares memory", what)
			}
			for i := range in.Files[:cap(in.Files)] {
				in.Files[:cap(in.Files)][i] = of("changed", "changed", 9)
			}
			if !equal(two, want) {
				t.Errorf("%s: the disk handed in is kept", what)
			}
		}
	}
}

// TestFaultsAreNew: a fault that was returned and is changed then changes no other.
func TestFaultsAreNew(t *testing.T) { // R4
	for what, call := range calls() {
		d := downed(unarmed(99, of("k", "torn", 2)))
		_, one := call(d)
		_, two := call(d)
		var f, g *file.Fault
		if !errors.As(one, &f) || !errors.As(two, &g) {
			continue
		}
		was := *g
		f.Op, f.File, f.E = 77, "spoilt", 77
		if f == g || *g != was {
			t.Errorf("%s: two faults are one", what)
		}
	}
}

// TestArgumentsStay: lists of operations and of loads are as they were, and what is behind them is not read.
func TestArgumentsStay(t *testing.T) { // R4
	d := unarmed(99, of("k", framed("a"), 2))
	writes := []api.Write{appends("k", "x"), syncs("k"), deletes("k"), {Op: 77}}
	was := slices.Clone(writes)
	for n := range 3 {
		got, err := file.Do(d, writes[:n])
		want, _ := reference(d, was[:n])
		wantDisk(t, "Do", got, err, want)
	}
	file.Do(d, writes)
	if !slices.Equal(writes, was) {
		t.Errorf("Do makes %v of its operations", writes)
	}
	loads := []string{"a", "", "bc", letters(1025)}
	before := slices.Clone(loads)
	for n := 1; n <= 3; n++ {
		got, err := file.Put(d, "m", loads[:n])
		b := together(before[:n]...)
		wantDisk(t, "Put", got, err, unarmed(99, d.Files[0], of("m", b, len(b))))
		if s, e := file.Bytes(loads[:n]); e != api.OK || s != b {
			t.Errorf("Bytes = %q, %v", s, e)
		}
	}
	file.Put(d, "m", loads)
	file.Bytes(loads)
	if !slices.Equal(loads, before) {
		t.Errorf("loads are %s now", short(loads))
	}
}

// TestListsAreNew: what is made of loads that were returned changes no later answer, no other list, and no disk.
func TestListsAreNew(t *testing.T) { // R4
	for _, l := range lists() {
		in, room := spare(unarmed(api.MaxCap, of("k", together(l...)+"t", 0)))
		one, _ := file.Loads(in, "k")
		two, _ := file.Loads(in, "k")
		one = one[:cap(one)]
		for i := range one {
			one[i] = "spoilt"
		}
		if !slices.Equal(two, l) || !equal(in, unarmed(api.MaxCap, of("k", together(l...)+"t", 0))) || room[0] != (api.File{}) {
			t.Errorf("two lists of %s share memory", short(l))
		}
		wantLoads(t, "asked again", in, "k", l, 1)
	}
}

// TestManyOperations: a long list is gone through, and ends.
func TestManyOperations(t *testing.T) { // R1, P5.2
	got, err := file.Do(unarmed(1<<16), slices.Repeat([]api.Write{appends("k", "x")}, 20000))
	wantDisk(t, "20,000 operations", got, err, unarmed(1<<16, of("k", strings.Repeat("x", 20000), 0)))
	l := slices.Repeat([]string{""}, 1<<14)
	got, err = file.Put(unarmed(1<<16), "k", l)
	wantDisk(t, "2^14 loads", got, err, unarmed(1<<16, of("k", strings.Repeat("\x00", 1<<16), 1<<16)))
	got, err = file.Put(unarmed(1<<16), "k", append(l, ""))
	wantFault(t, "2^14 loads and one", got, err, unarmed(1<<16), file.Fault{Op: api.WrAppend, File: "k", E: api.ErrFull})
}
