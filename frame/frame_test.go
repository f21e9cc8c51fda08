package frame_test

import (
	"encoding/binary"
	"fmt"
	"math"
	"slices"
	"strings"
	"testing"
	"unsafe"

	"roving/api"
	"roving/frame"
)

// lead returns the bytes of a length, apart from how the program makes them.
func lead(n int) string { return string(binary.LittleEndian.AppendUint32(nil, uint32(n))) }

// framed returns the frame of a load, whether or not it is too long for one.
func framed(load string) string { return lead(len(load)) + load }

// together returns the frames of loads, one after another.
func together(loads ...string) string {
	b := ""
	for _, load := range loads {
		b += framed(load)
	}
	return b
}

// reference returns the loads and how many bytes are torn, by the words of the document.
func reference(b string) (loads []string, torn int) {
	for len(b) >= 4 {
		n := int64(binary.LittleEndian.Uint32([]byte(b)))
		if n > 1024 || n > int64(len(b)-4) {
			break
		}
		loads = append(loads, b[4:4+n])
		b = b[4+n:]
	}
	return loads, len(b)
}

// letters returns a text of n bytes that are not all the same, with each value that a byte may have if n allows it.
func letters(n int) string {
	b := make([]byte, n)
	for i := range b {
		b[i] = byte(i*7 + i/256)
	}
	return string(b)
}

// sizes returns the lengths of loads at which something changes.
func sizes() []int { return []int{0, 1, 2, 3, 4, 5, 254, 255, 256, 257, 511, 512, 1022, 1023, 1024} }

// loads returns loads of these lengths, some of which look like frames or like their beginnings.
func loads() []string {
	l := []string{"\x00\x00\x00\x00", "\x01\x00\x00\x00a", "\x01\x00\x00", "\x01\x04\x00\x00", "\xff\xff\xff\xff", together("a", "", "bc")}
	for _, n := range sizes() {
		l = append(l, letters(n), strings.Repeat("\x00", n), strings.Repeat("\xff", n))
	}
	return l
}

// short returns the beginning of a value as text.
func short(x any) string { return fmt.Sprintf("%.60s", fmt.Sprintf("%q", x)) }

// wantAll holds All, Whole and First of b to loads and to how many bytes are torn.
func wantAll(t *testing.T, what, b string, loads []string, torn int) {
	t.Helper()
	got, gotTorn := frame.All(b)
	if !slices.Equal(got, loads) || gotTorn != torn {
		t.Errorf("%s: All(%s) = %d loads %s, %d; want %d loads %s, %d", what, short(b), len(got), short(got), gotTorn, len(loads), short(loads), torn)
	}
	if got := frame.Whole(b); got != (torn == 0) {
		t.Errorf("%s: Whole(%s) = %v with %d bytes torn", what, short(b), got, torn)
	}
	if len(loads) > 0 {
		wantFirst(t, what, b, loads[0], 4+len(loads[0]), true)
	} else {
		wantFirst(t, what, b, "", 0, false)
	}
}

func wantFirst(t *testing.T, what, b, load string, behind int, ok bool) {
	t.Helper()
	got, gotBehind, gotOK := frame.First(b)
	if got != load || gotBehind != behind || gotOK != ok {
		t.Errorf("%s: First(%s) = %s, %d, %v; want %s, %d, %v", what, short(b), short(got), gotBehind, gotOK, short(load), behind, ok)
	}
}

func TestLengthsOfFrames(t *testing.T) { // P4.1
	for n, want := range map[int]string{
		0: "\x00\x00\x00\x00", 1: "\x01\x00\x00\x00", 255: "\xff\x00\x00\x00", 256: "\x00\x01\x00\x00",
		257: "\x01\x01\x00\x00", 1023: "\xff\x03\x00\x00", 1024: "\x00\x04\x00\x00",
	} {
		load := letters(n)
		if b, e := frame.Bytes(load); e != api.OK || b != want+load {
			t.Errorf("Bytes of %d bytes = %s, %v", n, short(b), e)
		}
	}
}

func TestBytesOfLoads(t *testing.T) { // P4.1
	for _, load := range loads() {
		b, e := frame.Bytes(load)
		if e != api.OK || b != framed(load) || frame.Size(len(load)) != len(b) {
			t.Errorf("Bytes of %d bytes = %s, %v; Size %d", len(load), short(b), e, frame.Size(len(load)))
		}
		wantFirst(t, "alone", b, load, len(b), true)
	}
}

// TestBytesOfEachByte: a load may have each byte at each place, whatever it looks like.
func TestBytesOfEachByte(t *testing.T) { // P4.1
	for c := range 256 {
		for _, n := range []int{1, 255, 256, 257, 1023, 1024} {
			load := strings.Repeat(string([]byte{byte(c)}), n)
			b, e := frame.Bytes(load)
			if e != api.OK || b != framed(load) {
				t.Errorf("Bytes of %d times %d = %s, %v", n, c, short(b), e)
			}
			wantAll(t, "each byte", b, []string{load}, 0)
		}
	}
}

func TestBytesOfWhatIsTooLong(t *testing.T) { // P4.1
	for _, n := range []int{1025, 1026, 1028, 1029, 2048, 1 << 16, 1<<16 + 1, 1 << 20, 1 << 24} {
		if b, e := frame.Bytes(strings.Repeat("x", n)); e != api.ErrArg || b != "" {
			t.Errorf("Bytes of %d bytes = %s, %v", n, short(b), e)
		}
	}
}

func TestSize(t *testing.T) { // P4.1
	for n := range 1025 {
		if size := frame.Size(n); size != n+4 {
			t.Errorf("Size(%d) = %d", n, size)
		}
	}
	for _, n := range []int{-1, -2, -3, -4, -5, -1024, -1 << 32, math.MinInt + 4, math.MinInt + 1, math.MinInt, 1025, 1026, 1028, 1 << 31, 1 << 32, 1<<32 + 1, math.MaxInt - 4, math.MaxInt - 3, math.MaxInt - 1, math.MaxInt} {
		if size := frame.Size(n); size != 0 {
			t.Errorf("Size(%d) = %d", n, size)
		}
	}
}

// TestFirstOfFewBytes: no frame begins with fewer bytes than a length has, and one begins with four of them only if they
// are 0.
func TestFirstOfFewBytes(t *testing.T) { // P4.1
	values := []byte{0, 1, 2, 3, 4, 5, 0x80, 0xff}
	few := []string{""}
	for size := 0; size <= 4; size++ {
		var more []string
		for _, b := range few {
			if b == "\x00\x00\x00\x00" {
				wantFirst(t, "few bytes", b, "", 4, true)
			} else {
				wantFirst(t, "few bytes", b, "", 0, false)
			}
			for _, c := range values {
				more = append(more, b+string([]byte{c}))
			}
		}
		few = more
	}
}

// TestFirstBeforeEachNumberOfBytes: behind a length stand fewer bytes than it says, just as many, or more.
func TestFirstBeforeEachNumberOfBytes(t *testing.T) { // P4.1
	for _, n := range sizes() {
		for _, there := range []int{0, 1, n - 4, n - 2, n - 1, n, n + 1, n + 3, n + 4, n + 2000} {
			if there < 0 {
				continue
			}
			b := lead(n) + letters(there)
			if there < n {
				wantFirst(t, "too few", b, "", 0, false)
			} else {
				wantFirst(t, "enough", b, letters(there)[:n], 4+n, true)
			}
		}
	}
}

// TestFirstOfEachLength: a length above 1,024 is none, however many bytes are there.
func TestFirstOfEachLength(t *testing.T) { // P4.1
	rest := letters(1 << 12)
	for n := range 1 << 12 {
		if n <= 1024 {
			wantFirst(t, "a length", lead(n)+rest, rest[:n], 4+n, true)
		} else {
			wantFirst(t, "a length", lead(n)+rest, "", 0, false)
		}
	}
	wantFirst(t, "1,024 and just as many", lead(1024)+rest[:1024], rest[:1024], 1028, true)
	wantFirst(t, "1,025 and just as many", lead(1025)+rest[:1025], "", 0, false)
	for _, n := range []int{1 << 16, 1<<16 + 1, 1 << 17, 1 << 24} {
		wantFirst(t, "a great length and just as many", lead(n)+strings.Repeat("x", n), "", 0, false)
	}
}

// TestFirstOfEachByteOfTheLength: each of the four bytes counts, the lowest first.
func TestFirstOfEachByteOfTheLength(t *testing.T) { // P4.1
	rest := letters(2000)
	for c := 1; c <= 255; c++ {
		for at := range 4 {
			for _, other := range []byte{0, 1} { // the lowest byte, where it is not the one that is looked at
				l := []byte{other, 0, 0, 0}
				l[at] = byte(c)
				n := int(l[0]) + int(l[1])*256
				if n <= 1024 && l[2] == 0 && l[3] == 0 {
					wantFirst(t, "a byte of the length", string(l)+rest, rest[:n], 4+n, true)
				} else {
					wantFirst(t, "a byte of the length", string(l)+rest, "", 0, false)
				}
			}
		}
	}
	for _, n := range []int{1 << 16, 1 << 24, 1 << 31, 1<<31 + 1, 1<<32 - 1025, 1<<32 - 1024, 1<<32 - 4, 1<<32 - 1} {
		wantFirst(t, "a great length", lead(n)+rest, "", 0, false)
		wantFirst(t, "a great length alone", lead(n), "", 0, false)
	}
}

// fronts returns lists of loads that are put together.
func fronts() map[string][]string {
	m := map[string][]string{
		"no bytes":                 nil,
		"one frame":                {"abc"},
		"one empty load":           {""},
		"empty loads":              {"", "", "", ""},
		"two frames":               {"abc", "d"},
		"two that are the same":    {"abc", "abc"},
		"an empty load first":      {"", "abc"},
		"an empty load last":       {"abc", ""},
		"an empty load between":    {"a", "", "b"},
		"longest loads":            {letters(1024), letters(1024), letters(1024)},
		"a load that is a frame":   {"\x01\x00\x00\x00a", "b"},
		"a load that is a length":  {"\x01\x00\x00\x00", "b"},
		"a load of a great length": {"\xff\xff\xff\xff", "b"},
		"loads of each kind":       loads(),
	}
	for i := range 1000 {
		m["many frames"] = append(m["many frames"], letters(i%7))
	}
	return m
}

// tails returns bytes with which no frame begins.
func tails() []string {
	long := letters(1025)
	l := []string{
		"\x00", "\x00\x00", "\x00\x00\x00", "\x01", "\x01\x00", "\x01\x00\x00", "\xff", "\xff\xff", "\xff\xff\xff", "a", "ab", "abc",
		lead(1), lead(2) + "a", lead(3), lead(3) + "ab", lead(4) + "\x00\x00\x00", lead(255), lead(256), lead(256) + letters(255),
		lead(1024), lead(1024) + "a", lead(1024) + letters(1023),
		lead(5) + "\x00\x00\x00\x00", // in what is there of the load a frame begins
		lead(9) + framed("abc"),
	}
	for _, n := range []int{1025, 1026, 1 << 16, 1<<16 + 3, 1 << 24, 1<<24 + 3, 1 << 31, 1<<31 + 3, 1<<32 - 4, 1<<32 - 1} {
		l = append(l, lead(n), lead(n)+"a", lead(n)+long, lead(n)+long+together("a", "b"), lead(n)+together("a", "", "bc"), lead(n)+lead(0))
	}
	return l
}

func TestAllOfWholeFrames(t *testing.T) { // P4.2, P4.3
	for what, l := range fronts() {
		wantAll(t, what, together(l...), l, 0)
	}
}

func TestAllBeforeTornBytes(t *testing.T) { // P4.2
	for what, l := range fronts() {
		for _, tail := range tails() {
			wantAll(t, what+" before "+short(tail), together(l...)+tail, l, len(tail))
		}
	}
}

// TestAllOfAllShortBytes: of all strings of up to seven bytes, with the lengths of loads that fit in and some that don't.
func TestAllOfAllShortBytes(t *testing.T) { // P4.2
	values := []byte{0, 1, 2, 4, 0xff}
	few := []string{""}
	for size := 0; size <= 7; size++ {
		var more []string
		for _, b := range few {
			l, torn := reference(b)
			wantAll(t, "short bytes", b, l, torn)
			for _, c := range values {
				more = append(more, b+string([]byte{c}))
			}
		}
		few = more
	}
}

// TestAllOfMixedBytes: of strings that are mixed of frames, lengths and other bytes.
func TestAllOfMixedBytes(t *testing.T) { // P4.2
	x := uint32(1)
	next := func(n int) int {
		x = x*1664525 + 1013904223
		return int(x>>8) % n
	}
	for range 20000 {
		b := ""
		for range next(8) {
			switch next(16) {
			case 0:
				b += lead(next(1 << 12))
			case 1:
				b += letters(next(9))
			case 2:
				b += lead(1020 + next(10))
			case 3:
				b += framed(letters(next(1100)))
			default:
				b += framed(letters(next(12)))
			}
		}
		l, torn := reference(b)
		wantAll(t, "mixed bytes", b, l, torn)
	}
}

func TestLoadsComeBack(t *testing.T) { // P4.3
	for what, l := range fronts() {
		b := ""
		for _, load := range l {
			f, e := frame.Bytes(load)
			if e != api.OK {
				t.Fatalf("%s: Bytes(%s) = %v", what, short(load), e)
			}
			b += f
		}
		wantAll(t, what, b, l, 0)
		for i, load := range l { // and one after another, by First
			got, behind, ok := frame.First(b)
			if got != load || behind != frame.Size(len(load)) || !ok {
				t.Fatalf("%s: First at load %d = %s, %d, %v", what, i, short(got), behind, ok)
			}
			b = b[behind:]
		}
		wantFirst(t, what+" read to the end", b, "", 0, false)
	}
}

// TestEachBeginning: cut anywhere, the first loads are left, and what is torn is less than the frame that was cut.
func TestEachBeginning(t *testing.T) { // P4.3
	for what, l := range fronts() {
		if what == "loads of each kind" {
			l = l[:18] // the short ones; long ones are cut in the list that has them alone
		}
		b, whole, torn := together(l...), 0, 0
		for i := range len(b) + 1 {
			if whole < len(l) && torn == 4+len(l[whole]) {
				whole, torn = whole+1, 0
			}
			got, gotTorn := frame.All(b[:i])
			if !slices.Equal(got, l[:whole]) || gotTorn != torn || frame.Whole(b[:i]) != (torn == 0) {
				t.Fatalf("%s, the first %d bytes: %d loads, %d torn; want %d, %d", what, i, len(got), gotTorn, whole, torn)
			}
			torn++
		}
		if whole != len(l) {
			t.Fatalf("%s: %d of %d loads were seen", what, whole, len(l))
		}
	}
}

// TestWhatFollowsWholeFrames: it is read as if these were not there.
func TestWhatFollowsWholeFrames(t *testing.T) { // P4.3
	behind := append(tails(), "", together("x"), together("x", "", letters(1024)), together("x")+"\x05")
	for what, l := range fronts() {
		for _, tail := range behind {
			alone, torn := frame.All(tail)
			got, gotTorn := frame.All(together(l...) + tail)
			if !slices.Equal(got, slices.Concat(l, alone)) || gotTorn != torn || frame.Whole(together(l...)+tail) != frame.Whole(tail) {
				t.Errorf("%s before %s: %d loads, %d torn; alone %d, %d", what, short(tail), len(got), gotTorn, len(alone), torn)
			}
		}
	}
}

func TestTheExample(t *testing.T) { // P4.2, P4.3
	wantAll(t, "the example", "\x01\x00\x00\x00\x61\x02", []string{"a"}, 1)
}

// TestLongBytes: what is long is gone over in one go, whatever stands in it.
func TestLongBytes(t *testing.T) { // P4.2, R1
	n := 1 << 20
	wantAll(t, "empty loads", strings.Repeat("\x00", 4*n), make([]string, n), 0)
	wantAll(t, "empty loads and a byte", strings.Repeat("\x00", 4*n+1), make([]string, n), 1)
	wantAll(t, "torn bytes", strings.Repeat("\xff", 4*n), nil, 4*n)
	wantAll(t, "short loads", strings.Repeat(framed("abc"), n), slices.Repeat([]string{"abc"}, n), 0)
	b := strings.Repeat(framed("abc"), n)
	for range n {
		_, behind, _ := frame.First(b)
		b = b[behind:]
	}
	if b != "" {
		t.Errorf("First, again and again, leaves %d bytes", len(b))
	}
}

// shares tells whether two strings have a byte of memory in common. Those of fewer than two bytes don't count: the
// language keeps them once.
func shares(a, b string) bool {
	if len(a) < 2 || len(b) < 2 {
		return false
	}
	x, y := uintptr(unsafe.Pointer(unsafe.StringData(a))), uintptr(unsafe.Pointer(unsafe.StringData(b)))
	return x < y+uintptr(len(b)) && y < x+uintptr(len(a))
}

// TestNothingIsShared: what is returned shares no memory with what was handed in, nor with what is returned another
// time or at another place.
func TestNothingIsShared(t *testing.T) { // R4
	l := []string{"abc", letters(20), "abc", letters(1024)}
	for _, load := range l {
		one, _ := frame.Bytes(load)
		two, _ := frame.Bytes(load)
		if shares(one, load) || shares(one, two) {
			t.Errorf("Bytes of %d bytes shares memory", len(load))
		}
		b := framed(load) + "behind"
		one, _, _ = frame.First(b)
		two, _, _ = frame.First(b)
		if shares(one, b) || shares(one, two) {
			t.Errorf("First of %d bytes shares memory", len(load))
		}
	}
	b := together(l...)
	one, _ := frame.All(b)
	two, _ := frame.All(b)
	for i := range l {
		if shares(one[i], b) || shares(one[i], two[i]) || i > 0 && shares(one[0], one[i]) {
			t.Errorf("load %d of All shares memory", i)
		}
	}
}

// TestListsAreNew: what is made of a list that was returned changes no later answer, and no other list.
func TestListsAreNew(t *testing.T) { // R4
	for what, l := range fronts() {
		for _, tail := range []string{"", "\x02", lead(3) + "ab"} {
			b := together(l...) + tail
			was := strings.Clone(b)
			one, _ := frame.All(b)
			two, _ := frame.All(b)
			one = one[:cap(one)]
			for i := range one {
				one[i] = "spoilt"
			}
			one = append(one, "spoilt")
			if !slices.Equal(two, l) {
				t.Errorf("%s: two lists share memory", what)
			}
			wantAll(t, what+", asked again", b, l, len(tail))
			if b != was {
				t.Errorf("%s: the bytes are changed", what)
			}
		}
	}
}

// TestAnswersAreTheSameAgain: what is returned hangs on the argument alone, wherever it lies.
func TestAnswersAreTheSameAgain(t *testing.T) { // R3
	for what, l := range fronts() {
		for _, tail := range append(tails(), "") {
			b := together(l...) + tail
			inside := (framed("before") + b + "behind")[10 : 10+len(b)]
			one, torn := frame.All(b)
			two, again := frame.All(inside)
			if !slices.Equal(one, two) || torn != again || frame.Whole(b) != frame.Whole(inside) {
				t.Errorf("%s before %s: %d, %d and %d, %d", what, short(tail), len(one), torn, len(two), again)
			}
			load, behind, ok := frame.First(b)
			if l, n, is := frame.First(inside); l != load || n != behind || is != ok {
				t.Errorf("%s before %s: First = %s, %d, %v and %s, %d, %v", what, short(tail), short(load), behind, ok, short(l), n, is)
			}
		}
	}
}
