package disk_test

import (
	"fmt"
	"maps"
	"math"
	"reflect"
	"slices"
	"strings"
	"testing"

	"roving/api"
	"roving/disk"
)

// letters are the bytes that a name may have.
const letters = "abcdefghijklmnopqrstuvwxyz0123456789."

func file(name, b string, sure int) api.File { return api.File{Name: name, B: b, Sure: sure} }

// unarmed returns a disk that is up and does not go down.
func unarmed(most int, files ...api.File) api.Disk {
	return api.Disk{Files: files, Cap: most, Left: -1}
}

func armed(d api.Disk, left int) api.Disk {
	d.Left = left
	return d
}

func downed(d api.Disk) api.Disk {
	d.Down = true
	return d
}

func appends(name, b string) api.Write { return api.Write{Op: api.WrAppend, File: name, B: b} }

func syncs(name string) api.Write { return api.Write{Op: api.WrSync, File: name} }

func replaces(name, b string) api.Write { return api.Write{Op: api.WrReplace, File: name, B: b} }

func shortens(name string, n int) api.Write {
	return api.Write{Op: api.WrShorten, File: name, N: n}
}

func deletes(name string) api.Write { return api.Write{Op: api.WrDelete, File: name} }

// equal tells whether two disks are equal, apart from how the program tells it; nil and empty mean the same.
func equal(a, b api.Disk) bool {
	return reflect.DeepEqual(append([]api.File{}, a.Files...), append([]api.File{}, b.Files...)) &&
		a.Cap == b.Cap && a.Left == b.Left && a.Down == b.Down
}

// isNothing tells whether a disk is the zero value.
func isNothing(d api.Disk) bool { return equal(d, api.Disk{}) }

// isValid tells whether a disk is valid, by the words of the document.
func isValid(d api.Disk) bool {
	sum := 0
	for i, f := range d.Files {
		if !isName(f.Name) || len(f.B) == 0 || f.Sure < 0 || f.Sure > len(f.B) {
			return false
		}
		if i > 0 && strings.Compare(d.Files[i-1].Name, f.Name) >= 0 {
			return false
		}
		sum += len(f.B)
	}
	return len(d.Files) <= 64 && d.Cap >= 0 && d.Cap <= 65536 && sum <= d.Cap
}

func isName(s string) bool { return s != "" && len(s) <= 8 && strings.Trim(s, letters) == "" }

// fileName returns the name of the i-th of up to 1,000 files that are in order.
func fileName(i int) string { return fmt.Sprintf("f%03d", i) }

// many returns a valid disk with n files of a byte each, their names fileName(0), fileName(10) and so on.
func many(n int) api.Disk {
	d := unarmed(api.MaxCap)
	for i := range n {
		d.Files = append(d.Files, file(fileName(10*i), "x", i%2))
	}
	return d
}

// noDisks returns disks with one thing wrong each.
func noDisks() map[string]api.Disk {
	a, b := file("a", "xyz", 1), file("b", "pq", 2)
	l := map[string]api.Disk{
		"65 files":                    many(65),
		"names out of order":          unarmed(9, b, a),
		"the last two out of order":   unarmed(9, a, file("c", "x", 0), b),
		"a longer name first":         unarmed(9, file("ab", "x", 0), a),
		"a name twice":                unarmed(9, a, a),
		"a name twice at the end":     unarmed(9, a, b, b),
		"an empty name":               unarmed(9, file("", "x", 0)),
		"an empty name first":         unarmed(9, file("", "x", 0), a),
		"a name of 9 bytes":           unarmed(9, file("abcdefghi", "x", 0)),
		"a name with a great letter":  unarmed(9, file("A", "x", 0), a),
		"a second name that is none":  unarmed(9, a, file("b_", "x", 0)),
		"a file without bytes":        unarmed(9, file("a", "", 0)),
		"a last file without bytes":   unarmed(9, a, file("b", "", 0)),
		"Sure -1":                     unarmed(9, file("a", "xyz", -1)),
		"Sure of the last -1":         unarmed(9, b, file("c", "xyz", -1)),
		"Sure -2^63":                  unarmed(9, file("a", "xyz", math.MinInt)),
		"Sure above the bytes":        unarmed(9, file("a", "xyz", 4)),
		"Sure of the last above":      unarmed(9, a, file("b", "pq", 3)),
		"Sure 2^63 - 1":               unarmed(9, file("a", "xyz", math.MaxInt)),
		"Cap -1":                      unarmed(-1),
		"Cap -2^63":                   unarmed(math.MinInt),
		"Cap 2^16 + 1":                unarmed(1<<16 + 1),
		"Cap 2^16 + 1, with a file":   unarmed(1<<16+1, a),
		"Cap 2^63 - 1":                unarmed(math.MaxInt),
		"a byte and no room":          unarmed(0, file("a", "x", 1)),
		"a byte too much":             unarmed(2, a),
		"a byte too much in two":      unarmed(4, a, b),
		"a byte more than a disk has": unarmed(1<<16, file("a", strings.Repeat("x", 1<<16), 0), file("b", "x", 0)),
	}
	for _, what := range slices.Sorted(maps.Keys(l)) { // they are none when they are down or armed, either
		l[what+", down"] = downed(l[what])
		l[what+", Left 0"] = armed(l[what], 0)
	}
	return l
}

// disks returns valid disks.
func disks() []api.Disk {
	a, b := file("a", "xyz", 1), file("b", "pq", 2)
	l := []api.Disk{
		unarmed(0), unarmed(9), unarmed(1 << 16), many(1), many(63), many(64),
		unarmed(3, a), unarmed(5, a, b), unarmed(9, a, b),
		unarmed(9, file("a", "xyz", 0)), unarmed(9, file("a", "xyz", 3)), unarmed(9, file("z", "x", 0)),
		unarmed(9, file("a", "x", 0), file("aa", "x", 0), file("ab", "x", 0), file("b", "x", 0)),
		unarmed(9, file(".", "x", 0), file("0", "x", 0), file("9", "\x00\xff", 0), file("a", "x", 0), file("zzzzzzzz", "x", 0)),
		unarmed(1<<16, file("a", strings.Repeat("x", 1<<16), 1<<16)),
		unarmed(1<<16, file("a", strings.Repeat("x", 1<<16-1), 7), file("b", "x", 0)),
	}
	for _, d := range l {
		for _, left := range []int{math.MinInt, -2, 0, 1, math.MaxInt} {
			l = append(l, armed(d, left), downed(armed(d, left)))
		}
		l = append(l, downed(d))
	}
	return l
}

func TestNamesOfEachLength(t *testing.T) { // P3.1
	for n := range 300 {
		s := strings.Repeat("b0.z9a.", 50)[:n]
		if got, want := disk.Name(s), n >= 1 && n <= 8; got != want {
			t.Errorf("Name of %d bytes = %v", n, got)
		}
	}
}

func TestNamesOfEachByte(t *testing.T) { // P3.1
	for c := range 256 {
		b := string([]byte{byte(c)})
		want := strings.Contains(letters, b)
		for _, front := range []string{"", "a", "0.z", "abcdefg"} {
			for _, tail := range []string{"", "a", "9.", ".bcdefg"} {
				s := front + b + tail
				if len(s) <= 8 && disk.Name(s) != want {
					t.Errorf("Name(%q) = %v", s, !want)
				}
			}
		}
	}
	for _, s := range []string{"ä", "aé", "日", "\xff", "a b", "a/b", "../a", "a\n", "a\x00"} {
		if disk.Name(s) {
			t.Errorf("Name(%q) = true", s)
		}
	}
}

func TestNew(t *testing.T) { // P3.1
	for _, most := range []int{0, 1, 10, 1<<16 - 1, 1 << 16} {
		d, e := disk.New(most)
		if e != api.OK || !equal(d, api.Disk{Cap: most, Left: -1}) || disk.Check(d) != api.OK {
			t.Errorf("New(%d) = %v, %v", most, d, e)
		}
	}
	for _, most := range []int{-1, 1<<16 + 1, math.MinInt, math.MaxInt} {
		if d, e := disk.New(most); e != api.ErrArg || !isNothing(d) {
			t.Errorf("New(%d) = %v, %v", most, d, e)
		}
	}
}

func TestCheck(t *testing.T) { // P3.1
	for _, d := range disks() {
		if e := disk.Check(d); e != api.OK {
			t.Errorf("Check(%.200v) = %v", d, e)
		}
	}
	for what, d := range noDisks() {
		if e := disk.Check(d); e != api.ErrArg {
			t.Errorf("%s: Check = %v", what, e)
		}
	}
}

func TestGet(t *testing.T) { // P3.1
	for _, d := range disks() {
		for _, f := range d.Files {
			if got, ok := disk.Get(d, f.Name); !ok || got != f {
				t.Errorf("Get(%.200v, %q) = %.99v, %v", d, f.Name, got, ok)
			}
		}
		for _, name := range []string{"", "A", "c", "aaa", "f001", "f640", "zzzzzzz", "zzzzzzzzz", "-"} {
			if got, ok := disk.Get(d, name); ok || got != (api.File{}) {
				t.Errorf("Get(%.200v, %q) = %v, %v", d, name, got, ok)
			}
		}
	}
}

func TestGetOfWhatIsNotValid(t *testing.T) { // P3.1
	d := api.Disk{Files: []api.File{file("m", "1", 9), file("b", "", -1), file("m", "2", 0), file("", "3", 0), file("B_", "4", 0), file("a", "5", 1), file("b", "6", 0)}, Cap: -7}
	for name, want := range map[string]api.File{"m": d.Files[0], "b": d.Files[1], "": d.Files[3], "B_": d.Files[4], "a": d.Files[5]} {
		if got, ok := disk.Get(d, name); !ok || got != want {
			t.Errorf("Get(%q) = %v, %v", name, got, ok)
		}
	}
	for _, name := range []string{"c", "M", "mm", "z", "0"} {
		if got, ok := disk.Get(d, name); ok || got != (api.File{}) {
			t.Errorf("Get(%q) = %v, %v", name, got, ok)
		}
	}
}

func TestUsed(t *testing.T) { // P3.1
	for _, x := range []struct {
		d    api.Disk
		want int
	}{
		{api.Disk{}, 0}, {unarmed(9), 0}, {many(64), 64}, {many(65), 65},
		{unarmed(9, file("a", "xyz", 0)), 3}, {unarmed(9, file("a", "xyz", 3), file("b", "pq", 1)), 5},
		{downed(armed(unarmed(-3, file("", "xyz", -5), file("b", "", 9), file("b", "grüß", 1)), 0)), 9},
		{unarmed(1<<16, file("a", strings.Repeat("x", 1<<16-1), 7), file("b", "xyz", 0)), 1<<16 + 2},
	} {
		if n := disk.Used(x.d); n != x.want {
			t.Errorf("Used(%.200v) = %d; want %d", x.d, n, x.want)
		}
	}
}

// others returns disks that differ from each other, the first one from each other one in one thing alone.
func others() []api.Disk {
	a, b := file("a", "xyz", 1), file("b", "pq", 0)
	return []api.Disk{
		unarmed(9, a, b),
		unarmed(8, a, b), armed(unarmed(9, a, b), -2), armed(unarmed(9, a, b), 0), downed(unarmed(9, a, b)),
		unarmed(9), unarmed(9, a), unarmed(9, b), unarmed(9, a, b, b), unarmed(9, b, a), unarmed(9, a, a), unarmed(9, b, b),
		unarmed(9, file("aa", "xyz", 1), b), unarmed(9, a, file("c", "pq", 0)),
		unarmed(9, file("a", "xyZ", 1), b), unarmed(9, file("a", "xy", 1), b), unarmed(9, a, file("b", "pQ", 0)),
		unarmed(9, file("a", "xyz", 2), b), unarmed(9, file("a", "xyz", -1), b), unarmed(9, a, file("b", "pq", 1)),
	}
}

func TestSame(t *testing.T) { // P3.1
	for i, x := range others() {
		for j, y := range others() { // made again: the files of no two disks lie at one place
			if disk.Same(x, y) != (i == j) {
				t.Errorf("Same(%v, %v) = %v", x, y, i != j)
			}
		}
	}
	for _, d := range []api.Disk{{}, unarmed(9), downed(armed(unarmed(7), 0))} {
		empty := d
		empty.Files = []api.File{}
		cut := d
		cut.Files = []api.File{file("a", "x", 0)}[:0]
		if !disk.Same(d, empty) || !disk.Same(empty, d) || !disk.Same(cut, d) || !disk.Same(empty, cut) || !disk.Same(d, d) {
			t.Errorf("Same of %v and one with an empty list = false", d)
		}
	}
	for _, d := range noDisks() {
		if !disk.Same(d, d) {
			t.Errorf("Same of %.200v and itself = false", d)
		}
	}
}

func TestEachOperation(t *testing.T) { // P3.2
	b, y := file("b", "pq", 1), file("y", "r", 0)
	for _, x := range []struct {
		what string
		w    api.Write
		want []api.File
	}{
		{"Append", appends("k", "12"), []api.File{b, file("k", "xyz12", 1), y}},
		{"Append, the first", appends("b", "1"), []api.File{file("b", "pq1", 1), file("k", "xyz", 1), y}},
		{"Append, the last", appends("y", "1"), []api.File{b, file("k", "xyz", 1), file("y", "r1", 0)}},
		{"Append, new", appends("l", "12"), []api.File{b, file("k", "xyz", 1), file("l", "12", 0), y}},
		{"Append, new, first", appends("aa", "12"), []api.File{file("aa", "12", 0), b, file("k", "xyz", 1), y}},
		{"Append, new, last", appends("yy", "12"), []api.File{b, file("k", "xyz", 1), y, file("yy", "12", 0)}},
		{"Sync", syncs("k"), []api.File{b, file("k", "xyz", 3), y}},
		{"Sync, the last", syncs("y"), []api.File{b, file("k", "xyz", 1), file("y", "r", 1)}},
		{"Replace", replaces("k", "1234"), []api.File{b, file("k", "1234", 4), y}},
		{"Replace by less", replaces("k", "1"), []api.File{b, file("k", "1", 1), y}},
		{"Replace, new", replaces("c", "12"), []api.File{b, file("c", "12", 2), file("k", "xyz", 1), y}},
		{"Replace, new, first", replaces("a", "12"), []api.File{file("a", "12", 2), b, file("k", "xyz", 1), y}},
		{"Replace, new, last", replaces("z", "12"), []api.File{b, file("k", "xyz", 1), y, file("z", "12", 2)}},
		{"Shorten to 0", shortens("k", 0), []api.File{b, y}},
		{"Shorten to 0, the last", shortens("y", 0), []api.File{b, file("k", "xyz", 1)}},
		{"Shorten to 1", shortens("k", 1), []api.File{b, file("k", "x", 1), y}},
		{"Shorten to 2", shortens("k", 2), []api.File{b, file("k", "xy", 2), y}},
		{"Shorten to all", shortens("k", 3), []api.File{b, file("k", "xyz", 3), y}},
		{"Shorten below what is sure", shortens("b", 1), []api.File{file("b", "p", 1), file("k", "xyz", 1), y}},
		{"Delete", deletes("k"), []api.File{b, y}},
		{"Delete, the first", deletes("b"), []api.File{file("k", "xyz", 1), y}},
		{"Delete, the last", deletes("y"), []api.File{b, file("k", "xyz", 1)}},
	} {
		d := unarmed(20, b, file("k", "xyz", 1), y)
		got, e := disk.Do(d, x.w)
		if e != api.OK || !equal(got, unarmed(20, x.want...)) {
			t.Errorf("%s = %v, %v; want %v", x.what, got, e, x.want)
		}
	}
}

func TestOperationsOnTheOnlyFile(t *testing.T) { // P3.2
	for _, w := range []api.Write{deletes("a"), shortens("a", 0)} {
		if d, e := disk.Do(unarmed(9, file("a", "x", 1)), w); e != api.OK || !equal(d, unarmed(9)) {
			t.Errorf("%v = %v, %v", w, d, e)
		}
	}
	for _, w := range []api.Write{appends("a", "x"), replaces("a", "x")} {
		sure := 0
		if w.Op == api.WrReplace {
			sure = 1
		}
		if d, e := disk.Do(unarmed(9), w); e != api.OK || !equal(d, unarmed(9, file("a", "x", sure))) {
			t.Errorf("%v = %v, %v", w, d, e)
		}
	}
}

// noOperations returns operations with one thing wrong each, none of which is one on any disk.
func noOperations() []api.Write {
	l := []api.Write{
		{Op: -1, File: "a"}, {Op: 5, File: "a"}, {Op: math.MaxInt8, File: "a"}, {Op: math.MinInt8, File: "a"},
		{Op: -1, File: "a", B: "x"}, {Op: 5, File: "a", B: "x"}, {Op: -1, File: "a", N: 1}, {Op: 5, File: "a", N: 1},
		appends("a", ""), replaces("a", ""),
		shortens("a", -1), shortens("a", math.MinInt),
		{Op: api.WrSync, File: "a", B: "x"}, {Op: api.WrShorten, File: "a", B: "x"}, {Op: api.WrDelete, File: "a", B: "x"},
		{Op: api.WrShorten, File: "a", B: "x", N: 1},
	}
	for _, n := range []int{1, -1, 3, math.MinInt, math.MaxInt} {
		l = append(l, api.Write{Op: api.WrAppend, File: "a", B: "x", N: n}, api.Write{Op: api.WrReplace, File: "a", B: "x", N: n})
		l = append(l, api.Write{Op: api.WrSync, File: "a", N: n}, api.Write{Op: api.WrDelete, File: "a", N: n})
	}
	for _, name := range []string{"", "A", "a_", "abcdefghi", "a/b", "\xff"} {
		l = append(l, appends(name, "x"), syncs(name), replaces(name, "x"), shortens(name, 0), deletes(name))
	}
	return l
}

// operations returns operations that are some on a disk with a file a of three bytes.
func operations() []api.Write {
	return []api.Write{
		appends("a", "x"), syncs("a"), replaces("a", "x"), shortens("a", 0), shortens("a", 2), deletes("a"),
		appends("new", "x"), replaces("new", "x"),
	}
}

func TestWhatIsNoOperation(t *testing.T) { // P3.2
	d := unarmed(20, file("a", "xyz", 1), file("b", "pq", 2))
	for _, w := range operations() {
		if _, e := disk.Do(d, w); e != api.OK {
			t.Errorf("Do(%v) = %v", w, e)
		}
	}
	full := many(64)
	full.Cap = 64
	for _, w := range noOperations() {
		// It is none before the disk is asked whether it is down, has the file, or has room.
		for _, x := range []api.Disk{d, armed(d, 0), armed(d, 1), downed(d), downed(armed(d, 0)), unarmed(0), full, downed(full)} {
			if got, e := disk.Do(x, w); e != api.ErrArg || !isNothing(got) {
				t.Errorf("Do(%.200v, %v) = %v, %v", x, w, got, e)
			}
		}
	}
}

func TestNoDisk(t *testing.T) { // P3.2, P3.3
	for what, d := range noDisks() {
		for _, w := range append(operations(), noOperations()...) {
			if got, e := disk.Do(d, w); e != api.ErrArg || !isNothing(got) {
				t.Errorf("%s: Do(%v) = %.200v, %v", what, w, got, e)
			}
		}
		for _, n := range []int{math.MinInt, -1, 0, 1} {
			if got, e := disk.Arm(d, n); e != api.ErrArg || !isNothing(got) {
				t.Errorf("%s: Arm(%d) = %.200v, %v", what, n, got, e)
			}
		}
		for _, keep := range [][]int{nil, {0}, {9, 9}, make([]int, 70)} {
			if got, e := disk.Crash(d, keep); e != api.ErrArg || !isNothing(got) {
				t.Errorf("%s: Crash(%v) = %.200v, %v", what, keep, got, e)
			}
		}
	}
}

func TestDiskThatIsDown(t *testing.T) { // P3.2
	d := unarmed(9, file("a", "xyz", 1))
	full := many(64)
	full.Cap = 64
	for _, left := range []int{math.MinInt, -1, 0, 1, 7} {
		for _, w := range append(operations(), syncs("no"), shortens("no", 0), deletes("no"), shortens("a", 4), appends("a", "0123456789")) {
			if got, e := disk.Do(downed(armed(d, left)), w); e != api.ErrDown || !isNothing(got) {
				t.Errorf("Left %d: Do(%v) = %v, %v", left, w, got, e)
			}
		}
		if got, e := disk.Do(downed(armed(full, left)), appends("z", "x")); e != api.ErrDown || !isNothing(got) {
			t.Errorf("Left %d: a file too many = %v, %v", left, got, e)
		}
	}
}

func TestDiskThatGoesDown(t *testing.T) { // P3.2
	d := armed(unarmed(9, file("a", "xyz", 1), file("b", "pq", 2)), 0)
	full := armed(many(64), 0)
	full.Cap = 64
	check := func(d api.Disk, w api.Write) {
		got, e := disk.Do(d, w)
		if e != api.ErrDown || !equal(got, downed(d)) {
			t.Errorf("Do(%.200v, %v) = %.200v, %v", d, w, got, e)
		}
		if again, e := disk.Do(got, w); e != api.ErrDown || !isNothing(again) {
			t.Errorf("Do(%.200v, %v) again = %.200v, %v", d, w, again, e)
		}
	}
	// Whether it has the file, the bytes or the room is not asked any more.
	for _, w := range append(operations(), syncs("no"), shortens("no", 1), deletes("no"), shortens("a", 4), appends("a", "0123456789")) {
		check(d, w)
		check(armed(unarmed(0), 0), w)
	}
	check(full, appends("z", "x"))
	check(full, replaces("z", "xy"))
}

func TestLeft(t *testing.T) { // P3.2
	d := unarmed(9, file("a", "xyz", 1))
	for _, w := range operations() {
		for left, want := range map[int]int{math.MinInt: math.MinInt, -7: -7, -1: -1, 1: 0, 2: 1, 9: 8, math.MaxInt: math.MaxInt - 1} {
			if got, e := disk.Do(armed(d, left), w); e != api.OK || got.Left != want || got.Down || got.Cap != 9 {
				t.Errorf("Left %d: Do(%v) = %v, %v", left, w, got, e)
			}
		}
	}
	left := armed(d, 3)
	for i := range 3 {
		next, e := disk.Do(left, appends("b", "1"))
		if e != api.OK || !equal(next, armed(unarmed(9, file("a", "xyz", 1), file("b", "111"[:i+1], 0)), 2-i)) {
			t.Fatalf("operation %d of 3 = %v, %v", i, next, e)
		}
		left = next
	}
	if got, e := disk.Do(left, appends("b", "1")); e != api.ErrDown || !equal(got, downed(left)) {
		t.Errorf("the fourth one = %v, %v", got, e)
	}
}

func TestNoSuchFile(t *testing.T) { // P3.2
	for _, d := range []api.Disk{unarmed(0), unarmed(9), unarmed(9, file("b", "xyz", 1)), many(64), armed(many(64), 1)} {
		for _, name := range []string{"a", "bb", "c", "zzzzzzzz", "f001", "."} {
			for _, w := range []api.Write{syncs(name), deletes(name), shortens(name, 0), shortens(name, 1), shortens(name, math.MaxInt)} {
				if got, e := disk.Do(d, w); e != api.ErrFile || !isNothing(got) {
					t.Errorf("Do(%.99v, %v) = %.99v, %v", d, w, got, e)
				}
			}
		}
	}
}

func TestShortenToMoreThanThereIs(t *testing.T) { // P3.2
	d := unarmed(9, file("a", "xyz", 1), file("b", "pq", 0))
	for _, left := range []int{-1, 1} {
		for _, w := range []api.Write{shortens("a", 4), shortens("b", 3), shortens("a", math.MaxInt)} {
			if got, e := disk.Do(armed(d, left), w); e != api.ErrArg || !isNothing(got) {
				t.Errorf("Do(%v) = %v, %v", w, got, e)
			}
		}
	}
}

func TestFilesAreLimited(t *testing.T) { // P3.2
	for _, make := range []func(name, b string) api.Write{appends, replaces} {
		for _, at := range []int{0, 5, 315, 635} { // the new file is before, between and behind those that are there
			name := "a"
			if at > 0 {
				name = fileName(at)
			}
			d := many(63)
			got, e := disk.Do(d, make(name, "x"))
			if e != api.OK || len(got.Files) != 64 || disk.Check(got) != api.OK {
				t.Errorf("the 64th file: %d files, %v", len(got.Files), e)
			}
			if f, ok := disk.Get(got, name); !ok || f.B != "x" {
				t.Errorf("the 64th file = %v, %v", f, ok)
			}
			for _, left := range []int{-1, 1} {
				if got, e := disk.Do(armed(many(64), left), make(name, "x")); e != api.ErrLong || !isNothing(got) {
					t.Errorf("the 65th file: %d files, %v", len(got.Files), e)
				}
			}
			full := many(64)
			full.Cap = 64 // neither a file more nor a byte: too many files comes first
			if got, e := disk.Do(full, make(name, "x")); e != api.ErrLong || !isNothing(got) {
				t.Errorf("the 65th file without room: %d files, %v", len(got.Files), e)
			}
		}
		if got, e := disk.Do(many(64), make(fileName(630), "xy")); e != api.OK || len(got.Files) != 64 {
			t.Errorf("one of 64 files: %d files, %v", len(got.Files), e)
		}
	}
}

func TestRoom(t *testing.T) { // P3.2
	d := unarmed(9, file("a", "xyz", 1), file("b", "pq", 2)) // room for four bytes more
	tight := unarmed(8, d.Files...)                          // and for three
	for _, w := range []api.Write{
		appends("a", "1234"), appends("b", "1234"), appends("aa", "1234"), appends("c", "1234"), replaces("c", "1234"),
		replaces("a", "1234567"), replaces("b", "123456"), // what is replaced makes room
	} {
		got, e := disk.Do(d, w)
		if e != api.OK || disk.Used(got) != 9 || disk.Check(got) != api.OK {
			t.Errorf("Do(%v) = %v, %v", w, got, e)
		}
		more := w
		more.B += "5"
		for _, x := range []struct {
			d api.Disk
			w api.Write
		}{{d, more}, {tight, w}, {armed(d, 1), more}, {armed(tight, 1), w}} {
			if got, e := disk.Do(x.d, x.w); e != api.ErrFull || !isNothing(got) {
				t.Errorf("Do(%v, %v) = %v, %v", x.d, x.w, got, e)
			}
		}
	}
	for _, w := range []api.Write{appends("a", "x"), replaces("a", "x")} {
		if got, e := disk.Do(unarmed(0), w); e != api.ErrFull || !isNothing(got) {
			t.Errorf("without room: Do(%v) = %v, %v", w, got, e)
		}
	}
}

func TestFullDisk(t *testing.T) { // P3.2
	all := strings.Repeat("x", 1<<16)
	for _, w := range []api.Write{appends("a", all), replaces("a", all)} {
		full, e := disk.Do(unarmed(1<<16), w)
		if e != api.OK || disk.Used(full) != 1<<16 {
			t.Fatalf("%d bytes, %v", disk.Used(full), e)
		}
		for _, w := range []api.Write{appends("a", "x"), appends("b", "x"), replaces("b", "x"), replaces("a", all+"x")} {
			if got, e := disk.Do(full, w); e != api.ErrFull || !isNothing(got) {
				t.Errorf("Do(%.20v) = %d bytes, %v", w, disk.Used(got), e)
			}
		}
		// What takes nothing more is done on a full disk, too.
		for _, w := range []api.Write{syncs("a"), replaces("a", all), replaces("a", "x"), shortens("a", 1<<16), shortens("a", 5), shortens("a", 0), deletes("a")} {
			if _, e := disk.Do(full, w); e != api.OK {
				t.Errorf("Do(%.20v) = %v", w, e)
			}
		}
	}
}

// reference does an operation by the words of the document, apart from how the program does it.
func reference(d api.Disk, w api.Write) (api.Disk, api.Errno) {
	writes := w.Op == api.WrAppend || w.Op == api.WrReplace
	if !isValid(d) || w.Op < api.WrAppend || w.Op > api.WrDelete || !isName(w.File) || writes != (w.B != "") ||
		w.N < 0 || w.N > 0 && w.Op != api.WrShorten {
		return api.Disk{}, api.ErrArg
	}
	if d.Down {
		return api.Disk{}, api.ErrDown
	}
	if d.Left == 0 {
		return downed(d), api.ErrDown
	}
	files := map[string]api.File{}
	for _, f := range d.Files {
		files[f.Name] = f
	}
	f, there := files[w.File]
	if !there && !writes {
		return api.Disk{}, api.ErrFile
	}
	if w.N > len(f.B) {
		return api.Disk{}, api.ErrArg
	}
	switch w.Op {
	case api.WrAppend:
		files[w.File] = file(w.File, f.B+w.B, f.Sure)
	case api.WrSync:
		files[w.File] = file(w.File, f.B, len(f.B))
	case api.WrReplace:
		files[w.File] = file(w.File, w.B, len(w.B))
	case api.WrShorten:
		files[w.File] = file(w.File, f.B[:w.N], w.N)
	case api.WrDelete:
		delete(files, w.File)
	}
	if files[w.File].B == "" {
		delete(files, w.File)
	}
	return limited(d, files)
}

// limited returns a disk with other files behind an operation, or the limit that they are above.
func limited(d api.Disk, files map[string]api.File) (api.Disk, api.Errno) {
	sum := 0
	d.Files = nil
	for _, name := range slices.Sorted(maps.Keys(files)) {
		d.Files = append(d.Files, files[name])
		sum += len(files[name].B)
	}
	if len(files) > 64 {
		return api.Disk{}, api.ErrLong
	}
	if sum > d.Cap {
		return api.Disk{}, api.ErrFull
	}
	if d.Left > 0 {
		d.Left--
	}
	return d, api.OK
}

// smallDisks returns many small disks; some have more bytes than Cap, and are not valid.
func smallDisks() []api.Disk {
	var lists [][]api.File
	for _, a := range []string{"", "x", "xyz"} {
		for _, b := range []string{"", "x", "pqr"} {
			for sa := range len(a) + 1 {
				for sb := range len(b) + 1 {
					files := []api.File{file("aa", a, sa), file("b", b, sb)}
					lists = append(lists, slices.DeleteFunc(files, func(f api.File) bool { return f.B == "" }))
				}
			}
		}
	}
	var l []api.Disk
	for _, files := range lists {
		for _, most := range []int{0, 3, 4, 6, 7, 8, 99} {
			for _, left := range []int{-3, 0, 1, 2} {
				l = append(l, armed(unarmed(most, files...), left))
			}
		}
		l = append(l, downed(unarmed(8, files...)), downed(armed(unarmed(8, files...), 0)))
	}
	return l
}

// smallWrites returns many operations, and what is none.
func smallWrites() []api.Write {
	var l []api.Write
	for op := int8(-1); op <= 5; op++ {
		for _, name := range []string{"", "a", "aa", "ab", "b", "c", "B"} {
			for _, b := range []string{"", "1", "12"} {
				for n := -1; n <= 4; n++ {
					l = append(l, api.Write{Op: op, File: name, B: b, N: n})
				}
			}
		}
	}
	return l
}

// TestAllSmallOperations: each operation on each small disk is done as the document says, its errors in their order.
func TestAllSmallOperations(t *testing.T) { // P3.2, P3.4
	writes := smallWrites()
	met := map[api.Errno]int{}
	for _, d := range smallDisks() {
		for _, w := range writes {
			want, wantError := reference(d, w)
			got, e := disk.Do(d, w)
			met[e]++
			if e != wantError || !equal(got, want) {
				t.Fatalf("Do(%v, %v) = %v, %v; want %v, %v", d, w, got, e, want, wantError)
			}
			if e == api.OK && (disk.Check(got) != api.OK || !isValid(got)) {
				t.Fatalf("Do(%v, %v) = %v, which is not valid", d, w, got)
			}
		}
	}
	for _, e := range []api.Errno{api.OK, api.ErrArg, api.ErrDown, api.ErrFile, api.ErrFull} {
		if met[e] < 100 {
			t.Errorf("%v was met %d times", e, met[e])
		}
	}
}

func TestArm(t *testing.T) { // P3.3
	for _, d := range disks() {
		for n, want := range map[int]int{math.MinInt: -1, -2: -1, -1: -1, 0: 0, 1: 1, 2: 2, 1 << 40: 1 << 40, math.MaxInt: math.MaxInt} {
			if got, e := disk.Arm(d, n); e != api.OK || !equal(got, armed(d, want)) {
				t.Errorf("Arm(%.200v, %d) = %.200v, %v", d, n, got, e)
			}
		}
	}
}

func TestArmedDisk(t *testing.T) { // P3.2, P3.3
	for n := range 4 {
		d, _ := disk.Arm(unarmed(9), n)
		for i := range n {
			next, e := disk.Do(d, appends("a", "x"))
			if e != api.OK {
				t.Fatalf("Arm(%d): operation %d = %v", n, i, e)
			}
			d = next
		}
		if got, e := disk.Do(d, appends("a", "x")); e != api.ErrDown || !got.Down || disk.Used(got) != n {
			t.Errorf("Arm(%d): operation %d = %v, %v", n, n, got, e)
		}
	}
}

func TestCrash(t *testing.T) { // P3.3
	d := unarmed(20, file("a", "xyz", 1), file("b", "pq", 2), file("c", "klmn", 0), file("d", "r", 0))
	a, b := file("a", "x", 1), file("b", "pq", 2)
	for _, x := range []struct {
		keep []int
		want []api.File
	}{
		{nil, []api.File{a, b}},
		{[]int{}, []api.File{a, b}},
		{[]int{0, 0, 0, 0}, []api.File{a, b}},
		{[]int{1}, []api.File{file("a", "xy", 2), b}},
		{[]int{2}, []api.File{file("a", "xyz", 3), b}},
		{[]int{3}, []api.File{file("a", "xyz", 3), b}},
		{[]int{math.MaxInt}, []api.File{file("a", "xyz", 3), b}},
		{[]int{-1}, []api.File{a, b}},
		{[]int{math.MinInt, -1, -1, -1}, []api.File{a, b}},
		{[]int{-1, 0, 2}, []api.File{a, b, file("c", "kl", 2)}},
		{[]int{0, 7, 1, 1}, []api.File{a, b, file("c", "k", 1), file("d", "r", 1)}},
		{[]int{0, 7, 0, 1}, []api.File{a, b, file("d", "r", 1)}},
		{[]int{0, math.MaxInt, math.MaxInt, math.MaxInt}, []api.File{a, b, file("c", "klmn", 4), file("d", "r", 1)}},
		{[]int{9, 9, 9, 9}, []api.File{file("a", "xyz", 3), b, file("c", "klmn", 4), file("d", "r", 1)}},
		{[]int{0, 0, 0, 0, 1, 1, 1}, []api.File{a, b}},
		{[]int{1, 1, 3, 1, 9, -9}, []api.File{file("a", "xy", 2), b, file("c", "klm", 3), file("d", "r", 1)}},
	} {
		for _, left := range []int{math.MinInt, -2, -1, 0, 5, math.MaxInt} {
			for _, was := range []api.Disk{armed(d, left), downed(armed(d, left))} {
				got, e := disk.Crash(was, x.keep)
				if e != api.OK || !equal(got, unarmed(20, x.want...)) || disk.Check(got) != api.OK {
					t.Errorf("Crash(%v, %v) = %v, %v; want %v", was, x.keep, got, e, x.want)
				}
			}
		}
	}
}

func TestCrashOfEveryFile(t *testing.T) { // P3.3
	for _, keep := range [][]int{nil, {1}, {-5, 0, 7}} {
		if got, e := disk.Crash(downed(unarmed(9)), keep); e != api.OK || !equal(got, unarmed(9)) {
			t.Errorf("Crash of an empty disk, %v = %v, %v", keep, got, e)
		}
	}
	d := unarmed(9, file("a", "xyz", 0), file("b", "pq", 0))
	if got, e := disk.Crash(d, nil); e != api.OK || !equal(got, unarmed(9)) {
		t.Errorf("Crash with nothing sure = %v, %v", got, e)
	}
	half, e := disk.Crash(many(64), nil) // every other file has its byte sure
	if e != api.OK || len(half.Files) != 32 || disk.Check(half) != api.OK {
		t.Errorf("Crash of 64 files: %d files, %v", len(half.Files), e)
	}
	for _, f := range half.Files {
		if was, ok := disk.Get(many(64), f.Name); !ok || was != f || f.Sure != 1 {
			t.Errorf("Crash of 64 files left %v", f)
		}
	}
}

// TestExamples: the examples of the document.
func TestExamples(t *testing.T) { // P3.2, P3.3
	do := func(l ...api.Write) api.Disk {
		d, _ := disk.New(20)
		for _, w := range l {
			next, e := disk.Do(d, w)
			if e != api.OK {
				t.Fatalf("Do(%v) = %v", w, e)
			}
			d = next
		}
		return d
	}
	d, _ := disk.Crash(do(appends("f", "a"), syncs("f"), appends("f", "bc")), []int{1})
	if f, ok := disk.Get(d, "f"); !ok || f != file("f", "ab", 2) {
		t.Errorf("the first one: %v, %v", f, ok)
	}
	d, _ = disk.Crash(do(appends("f", "a")), []int{0})
	if f, ok := disk.Get(d, "f"); ok || f != (api.File{}) || len(d.Files) != 0 {
		t.Errorf("the second one: %v, %v", f, ok)
	}
}

// dice returns a function that returns numbers below n, the same ones in each run.
func dice(seed uint32) func(n int) int {
	return func(n int) int {
		seed = seed*1664525 + 1013904223
		return int(seed>>8) % n
	}
}

// someWrite returns an operation, or what is none because the file is not there or has too few bytes.
func someWrite(roll func(n int) int, names []string) api.Write {
	name := names[roll(len(names))]
	b := "0123456789"[:1+roll(9)]
	switch roll(8) {
	case 0, 1, 2:
		return appends(name, b)
	case 3, 4:
		return syncs(name)
	case 5:
		return replaces(name, b)
	case 6:
		return shortens(name, roll(12))
	}
	return deletes(name)
}

// lacks tells which file of a disk lacks bytes that are sure, if one does.
func lacks(d api.Disk, sure map[string]string) string {
	for name, b := range sure {
		f, ok := disk.Get(d, name)
		if b != "" && (!ok || f.Sure < len(b) || !strings.HasPrefix(f.B[:f.Sure], b)) {
			return name
		}
	}
	return ""
}

// TestWhatIsSureStays: whatever is done, and whatever a crash keeps, bytes that are sure are there until they are
// replaced, shortened or deleted; and the disk is valid all the time.
func TestWhatIsSureStays(t *testing.T) { // P3.4
	names := []string{"a", "b", "c.1", "zzzzzzzz"}
	for seed := range uint32(40) {
		roll := dice(seed)
		d := unarmed(60)
		sure := map[string]string{}
		for range 400 {
			w := someWrite(roll, names)
			next, e := disk.Do(d, w)
			if want, wantError := reference(d, w); e != wantError || !equal(next, want) {
				t.Fatalf("Do(%v, %v) = %v, %v; want %v, %v", d, w, next, e, want, wantError)
			}
			if e != api.OK {
				continue
			}
			switch f, _ := disk.Get(next, w.File); w.Op {
			case api.WrSync, api.WrReplace, api.WrShorten, api.WrDelete:
				sure[w.File] = f.B // all of what is there now
			}
			d = next
			for range 3 {
				crashed, e := disk.Crash(d, []int{roll(12) - 1, roll(12) - 1, roll(12) - 1}[:roll(4)])
				if name := lacks(crashed, sure); e != api.OK || name != "" || disk.Check(crashed) != api.OK {
					t.Fatalf("behind %v, a crash of %v leaves %v, %v: %q", w, d, crashed, e, name)
				}
				if roll(60) == 0 { // go on with what the crash left: all of it is sure
					d = crashed
					for _, f := range d.Files {
						sure[f.Name] = f.B
					}
				}
			}
			if name := lacks(d, sure); name != "" || disk.Check(d) != api.OK {
				t.Fatalf("behind %v, %v: %q", w, d, name)
			}
		}
	}
}

// TestValidDisksStayValid: behind each operation, Arm and Crash.
func TestValidDisksStayValid(t *testing.T) { // P3.4
	check := func(what string, d, after api.Disk, e api.Errno) {
		if (e == api.OK || after.Down) && (disk.Check(after) != api.OK || !isValid(after)) {
			t.Errorf("%s of %.200v = %.200v, which is not valid", what, d, after)
		}
	}
	for _, d := range disks() {
		names := []string{"a", "zzzzzzzz", "new", "f635"}
		for _, f := range d.Files {
			names = append(names, f.Name)
		}
		for _, name := range names {
			for _, w := range []api.Write{appends(name, "12"), syncs(name), replaces(name, "12"), shortens(name, 0), shortens(name, 1), shortens(name, 3), deletes(name)} {
				after, e := disk.Do(d, w)
				check(fmt.Sprint(w), d, after, e)
			}
		}
		for _, n := range []int{math.MinInt, 0, 5} {
			after, e := disk.Arm(d, n)
			check("Arm", d, after, e)
			after, e = disk.Crash(d, []int{n, 1, n})
			check("Crash", d, after, e)
		}
	}
}

// both does two operations one after the other, and tells of each what it answered.
func both(d api.Disk, v, w api.Write) (after api.Disk, first, second api.Errno) {
	for i, x := range []api.Write{v, w} {
		next, e := disk.Do(d, x)
		if e == api.OK {
			d = next
		}
		if i == 0 {
			first = e
		} else {
			second = e
		}
	}
	return d, first, second
}

// TestOperationsAreExchanged: on different files it makes no difference which operation is done first, unless there
// is no room for one of them.
func TestOperationsAreExchanged(t *testing.T) { // P3.4
	on := func(name string) []api.Write {
		return []api.Write{appends(name, "12"), syncs(name), replaces(name, "1"), replaces(name, "1234"), shortens(name, 0), shortens(name, 2), shortens(name, 4), deletes(name)}
	}
	lists := [][]api.File{
		nil, {file("a", "xyz", 1)}, {file("c", "xyz", 1)}, {file("a", "xyz", 1), file("c", "pqrst", 0)},
		{file("a", "xyz", 3), file("b", "k", 0), file("c", "xyz", 2), file("d", "l", 1)},
	}
	for _, files := range lists {
		for _, left := range []int{-1, 2, 5} {
			d := armed(unarmed(30, files...), left)
			for _, v := range on("a") {
				for _, w := range on("c") {
					one, ev, ew := both(d, v, w)
					other, fw, fv := both(d, w, v)
					if !equal(one, other) || ev != fv || ew != fw {
						t.Errorf("%v, %v, %v: %v, %v, %v; the other way about: %v, %v, %v", d, v, w, one, ev, ew, other, fv, fw)
					}
				}
			}
		}
	}
	// Where there is no room, the order may tell: what makes room must come first.
	d := unarmed(3, file("a", "xyz", 3))
	if _, e, f := both(d, deletes("a"), appends("c", "1")); e != api.OK || f != api.OK {
		t.Errorf("what makes room first = %v, %v", e, f)
	}
	if _, e, f := both(d, appends("c", "1"), deletes("a")); e != api.ErrFull || f != api.OK {
		t.Errorf("what makes room last = %v, %v", e, f)
	}
}

// lent is a list that is handed in, with spare capacity behind it; back tells whether it is as it was.
func lent[T comparable](l []T, spare T) (list []T, back func() bool) {
	whole := append([]T{}, l...)
	for range 8 {
		whole = append(whole, spare)
	}
	was := slices.Clone(whole)
	return whole[:len(l)], func() bool { return slices.Equal(whole, was) }
}

// spoil overwrites a list and its capacity.
func spoil[T any](l []T, by T) {
	l = l[:cap(l)]
	for i := range l {
		l[i] = by
	}
}

// calls returns calls of the functions that return a disk, with and without errors.
func calls() map[string]func(d api.Disk, keep []int) (api.Disk, api.Errno) {
	m := map[string]func(d api.Disk, keep []int) (api.Disk, api.Errno){
		"Crash":  disk.Crash,
		"Arm 0":  func(d api.Disk, _ []int) (api.Disk, api.Errno) { return disk.Arm(d, 0) },
		"Arm -1": func(d api.Disk, _ []int) (api.Disk, api.Errno) { return disk.Arm(d, -1) },
	}
	for _, name := range []string{"a", "aa", "b", "c", "d", "new"} {
		for _, w := range []api.Write{appends(name, "1"), appends(name, "123456789"), syncs(name), replaces(name, "12"), replaces(name, "123456789"), shortens(name, 0), shortens(name, 1), shortens(name, 9), deletes(name)} {
			m[fmt.Sprint(w)] = func(d api.Disk, _ []int) (api.Disk, api.Errno) { return disk.Do(d, w) }
		}
	}
	return m
}

// TestNothingIsChangedOrShared: neither the lists that are handed in nor the capacity behind them change; what is
// returned shares no memory with them, nor with what another call returns.
func TestNothingIsChangedOrShared(t *testing.T) { // P3.2, P3.3, R4
	lists := [][]api.File{
		nil, {file("b", "xyz", 1)}, {file("b", "xyz", 0), file("c", "pq", 0)},
		{file("a", "xyz", 3), file("b", "k", 0), file("c", "lm", 1)},
		{file("b", "xyz", 1), file("b", "xyz", 1)}, // not valid
	}
	for what, call := range calls() {
		for _, list := range lists {
			for _, left := range []int{-1, 0, 1} {
				for _, down := range []bool{false, true} {
					files, filesBack := lent(list, file("spare", "spare", 77))
					keep, keepBack := lent([]int{1, 0, 1}, 77)
					d := api.Disk{Files: files, Cap: 14, Left: left, Down: down}
					one, e := call(d, keep)
					two, _ := call(d, keep)
					want := one
					want.Files = slices.Clone(one.Files)
					spoil(one.Files, file("spoilt", "spoilt", 99))
					if !filesBack() || !keepBack() {
						t.Errorf("%s of %v, %v: what was handed in is changed, or shared", what, d, e)
					}
					spoil(files, file("spoilt", "spoilt", 99))
					spoil(keep, 99)
					if !equal(two, want) {
						t.Errorf("%s of %v, %v: what is returned is shared: %v", what, list, e, two)
					}
				}
			}
		}
	}
}

// TestLooksChangeNothing: the functions that tell something about a disk leave it as it is.
func TestLooksChangeNothing(t *testing.T) { // P3.1, R4
	for _, list := range [][]api.File{{file("a", "xyz", 3), file("b", "k", 0)}, {file("b", "k", 0), file("a", "", 9)}} {
		files, back := lent(list, file("spare", "spare", 77))
		d := api.Disk{Files: files, Cap: 9}
		f, _ := disk.Get(d, "a")
		disk.Check(d)
		disk.Used(d)
		disk.Same(d, d)
		f.Name, f.B, f.Sure = "spoilt", "spoilt", 99
		if !back() {
			t.Errorf("%v is changed", d)
		}
	}
	one, _ := disk.New(9)
	spoil(one.Files, file("spoilt", "spoilt", 99))
	if two, e := disk.New(9); e != api.OK || !equal(two, unarmed(9)) {
		t.Errorf("New = %v, %v", two, e)
	}
}

// TestSpareCapacityMakesNoDifference: what is answered hangs on the lists alone, nil or empty, however they lie.
func TestSpareCapacityMakesNoDifference(t *testing.T) { // R1, R3
	for what, call := range calls() {
		for _, list := range [][]api.File{{}, {file("b", "xyz", 1)}, {file("a", "x", 0), file("c", "pq", 1)}} {
			files, _ := lent(list, file("spare", "spare", 77))
			one, e := call(unarmed(9, files...), []int{1, 1, 1, 1}[:len(list)])
			two, f := call(unarmed(9, slices.Clip(slices.Clone(list))...), slices.Repeat([]int{1}, len(list)))
			if len(list) == 0 {
				two, f = call(unarmed(9), nil)
			}
			if e != f || !equal(one, two) {
				t.Errorf("%s of %v: %v, %v and %v, %v", what, list, one, e, two, f)
			}
		}
	}
}
