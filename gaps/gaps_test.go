package gaps

import (
	"encoding/binary"
	"math"
	"slices"
	"strings"
	"testing"

	"carousel/api"
)

// top is the bytes of the greatest number.
const top = "\xff\xff\xff\xff\xff\xff\xff\xff\x7f"

// rising are lists that rise: short ones and long ones, with gaps about each edge at which a gap gets one bit more.
func rising() [][]int {
	l := [][]int{
		nil,
		{},
		{0},
		{1},
		{127},
		{128},
		{math.MaxInt - 1},
		{math.MaxInt},
		{0, 1},
		{0, math.MaxInt},
		{math.MaxInt - 1, math.MaxInt},
		{0, 1, math.MaxInt - 1, math.MaxInt},
		{3, 4, 300},
	}
	var powers, sideBySide, wide []int
	for k := range 63 {
		p := 1 << k
		powers = append(powers, p)
		l = append(l, []int{p - 1}, []int{p - 1, p}, []int{0, p}, []int{0, p + 1}, []int{p, math.MaxInt})
	}
	for n := range 300 {
		sideBySide = append(sideBySide, n)
		wide = append(wide, 5+1000*n)
	}
	return append(l, powers, sideBySide, wide)
}

// notRising are lists that do not rise.
func notRising() [][]int {
	return [][]int{
		{-1},
		{-2},
		{math.MinInt},
		{-1, 0},
		{-2, -1},
		{math.MinInt, math.MaxInt},
		{0, -1},
		{0, 0},
		{4, 4},
		{2, 1},
		{1, 0},
		{math.MaxInt, 0},
		{math.MaxInt, math.MaxInt},
		{math.MaxInt, math.MaxInt - 1},
		{math.MaxInt, math.MinInt},
		{0, math.MinInt},
		{1, 2, 3, 3},
		{1, 2, 3, 2, 5},
		{1, 3, 2},
		{5, 1, 6},
		{1, -1, 3},
		{1, 2, -3},
	}
}

// noLists are texts at whose beginning no list's bytes stand.
func noLists() map[string]string {
	over := "\x80\x80\x80\x80\x80\x80\x80\x80\x80\x01" // 2^63, which is no number of Put
	return map[string]string{
		"nothing":                                     "",
		"a count that is cut off":                     "\x80",
		"a count that is written too long":            "\x80\x00",
		"a count of 2^63":                             over + "\x00",
		"a count of 1, and no number":                 "\x01",
		"a count of 2, and one number":                "\x02\x05",
		"a count of 3, and two numbers":               "\x03\x05\x00",
		"a count of 16383, and no number":             "\xff\x7f",
		"a count of 16383, and a few numbers":         "\xff\x7f\x00\x00\x00",
		"the greatest count, and no number":           top,
		"the greatest count, and a few numbers":       top + "\x00\x00\x00",
		"the greatest count but one":                  "\xfe" + top[1:] + "\x00\x00\x00",
		"a count of 2^40":                             "\x80\x80\x80\x80\x80\x20\x01\x01",
		"a first number that is cut off":              "\x01\x80",
		"a second number that is cut off":             "\x02\x05\xff",
		"two numbers of three bytes for a count of 3": "\x03\x05\xac\x02",
		"a first number that is written too long":     "\x01\x80\x00",
		"a second number that is written too long":    "\x02\x05\x81\x00",
		"a first number of 2^63":                      "\x01" + over,
		"a gap of 2^63":                               "\x02\x00" + over,
		"a gap of 0 behind the greatest number":       "\x02" + top + "\x00",
		"a gap of 1 behind the greatest number":       "\x02" + top + "\x01",
		"the greatest gap behind the greatest one":    "\x02" + top + top,
		"the greatest gap behind 0":                   "\x02\x00" + top,
		"the greatest gap behind 5":                   "\x02\x05" + top,
		"the greatest gap but one behind 1":           "\x02\x01\xfe" + top[1:],
		"a third number beyond the greatest one":      "\x03\x00\xfe" + top[1:] + "\x00",
		"a wrap round to a number below the first":    "\x03\x05" + top + top,
	}
}

// bytesOf tells the bytes of a list that rises, by the library's numbers.
func bytesOf(l []int) string {
	b := binary.AppendUvarint(nil, uint64(len(l)))
	for i, n := range l {
		if i > 0 {
			n -= l[i-1] + 1
		}
		b = binary.AppendUvarint(b, uint64(n))
	}
	return string(b)
}

func wantEncoded(t *testing.T, l []int, want string) {
	t.Helper()
	if s, e := Encode(l); s != want || e != api.OK {
		t.Errorf("Encode(%v): %q, %v; not %q, OK", l, s, e, want)
	}
}

func wantDecoded(t *testing.T, s string, at int, want []int, wantNext int) {
	t.Helper()
	if l, next, e := Decode(s, at); !slices.Equal(l, want) || next != wantNext || e != api.OK {
		t.Errorf("Decode(%q, %d): %v, %d, %v; not %v, %d, OK", s, at, l, next, e, want, wantNext)
	}
}

func wantNone(t *testing.T, name, s string, at int) {
	t.Helper()
	if l, next, e := Decode(s, at); len(l) != 0 || next != 0 || e != api.ErrForm {
		t.Errorf("%s: Decode at %d: %v, %d, %v; not none, 0, ErrForm", name, at, l, next, e)
	}
}

// P2.1: a list that rises is told as OK, one that does not as ErrArg.
func TestCheckTellsWhetherListRises(t *testing.T) {
	for _, l := range rising() {
		if e := Check(l); e != api.OK {
			t.Errorf("Check(%v): %v, not OK", l, e)
		}
	}
	for _, l := range notRising() {
		if e := Check(l); e != api.ErrArg {
			t.Errorf("Check(%v): %v, not ErrArg", l, e)
		}
	}
}

// P2.1: one number that does not rise is found wherever it stands in a long list.
func TestCheckLooksAtEachNumber(t *testing.T) {
	const long = 100
	for at := range long {
		for _, wrong := range []int{-1, at - 1, math.MinInt} {
			var l []int
			for n := range long {
				l = append(l, n)
			}
			l[at] = wrong
			if e := Check(l); e != api.ErrArg {
				t.Errorf("%d at %d: %v, not ErrArg", wrong, at, e)
			}
		}
	}
}

// P2.1: what the document says of Encode, list by list.
func TestEncodeTellsBytes(t *testing.T) {
	wantEncoded(t, []int{3, 4, 300}, "\x03\x03\x00\xa7\x02")
	wantEncoded(t, nil, "\x00")
	wantEncoded(t, []int{}, "\x00")
	wantEncoded(t, []int{0}, "\x01\x00")
	wantEncoded(t, []int{5}, "\x01\x05")
	wantEncoded(t, []int{300}, "\x01\xac\x02")
	wantEncoded(t, []int{0, 1, 2, 3}, "\x04\x00\x00\x00\x00")
	wantEncoded(t, []int{0, 128, 257}, "\x03\x00\x7f\x80\x01")
	wantEncoded(t, []int{math.MaxInt}, "\x01"+top)
	wantEncoded(t, []int{math.MaxInt - 1, math.MaxInt}, "\x02\xfe"+top[1:]+"\x00")
	wantEncoded(t, []int{0, math.MaxInt}, "\x02\x00\xfe"+top[1:])
}

// P2.1: counts and gaps of any size, by the library's numbers.
func TestEncodeAgreesWithTheLibrary(t *testing.T) {
	for _, l := range rising() {
		wantEncoded(t, l, bytesOf(l))
	}
}

// P2.1: Encode tells Check's error, and no bytes beside it.
func TestEncodeTellsNothingOfWrongLists(t *testing.T) {
	for _, l := range notRising() {
		if s, e := Encode(l); s != "" || e != api.ErrArg {
			t.Errorf("Encode(%v): %q, %v; not nothing, ErrArg", l, s, e)
		}
	}
}

// R4: what is handed in stays as it was.
func TestListStaysAsItWas(t *testing.T) {
	for _, l := range append(rising(), notRising()...) {
		was := slices.Clone(l)
		Check(l)
		Encode(l)
		if !slices.Equal(l, was) {
			t.Errorf("%v has become %v", was, l)
		}
	}
}

// R4: lists that are told are the caller's own.
func TestToldListIsNew(t *testing.T) {
	first, _, _ := Decode("\x02\x05\x00", 0)
	first[0] = 9
	_ = append(first[:1], 9)
	wantDecoded(t, "\x02\x05\x00", 0, []int{5, 6}, 3)
}

// P2.2: the list, and the place behind it, whatever stands ahead of it and behind it.
func TestDecodeTellsListAndPlace(t *testing.T) {
	wantDecoded(t, "\x09\x02\x05\x00", 1, []int{5, 6}, 4)
	wantDecoded(t, "\x03\x03\x00\xa7\x02", 0, []int{3, 4, 300}, 5)
	wantDecoded(t, "\x00", 0, nil, 1)
	wantDecoded(t, "\xff\x00\xff", 1, nil, 2)
	wantDecoded(t, "\x01\x00", 0, []int{0}, 2)
	wantDecoded(t, "\x01\x00", 1, nil, 2)
	wantDecoded(t, "\x04\x00\x00\x00\x00\x80", 0, []int{0, 1, 2, 3}, 5)
	wantDecoded(t, "\x01"+top, 0, []int{math.MaxInt}, 10)
	wantDecoded(t, "\x02\xfe"+top[1:]+"\x00", 0, []int{math.MaxInt - 1, math.MaxInt}, 11)
	wantDecoded(t, "\x02\x00\xfe"+top[1:], 0, []int{0, math.MaxInt}, 11)
	wantDecoded(t, "\x02\xfe"+top[1:]+"\x00\x00", 0, []int{math.MaxInt - 1, math.MaxInt}, 11)
}

// P2.2: bytes that are no list's.
func TestNoListIsDecoded(t *testing.T) {
	for name, s := range noLists() {
		wantNone(t, name, s, 0)
		wantNone(t, name+", behind another list", "\x01\x05"+s, 2)
	}
}

// P2.2: nothing stands at what is no place of the text.
func TestNothingStandsOutside(t *testing.T) {
	for _, s := range []string{"", "\x00", "\x01\x05", "\x00\x00\x00", "\x03\x03\x00\xa7\x02"} {
		for _, at := range []int{-1, -2, math.MinInt, math.MinInt + 1, len(s), len(s) + 1, math.MaxInt - 1, math.MaxInt} {
			wantNone(t, "outside", s, at)
		}
	}
}

// P2.2: a list of many numbers, and one that says it has one more.
func TestManyNumbersAreDecoded(t *testing.T) {
	const many = 1 << 20
	zeros := strings.Repeat("\x00", many)
	l, next, e := Decode("\x80\x80\x40"+zeros, 0)
	if len(l) != many || next != 3+many || e != api.OK || l[0] != 0 || l[many-1] != many-1 {
		t.Errorf("%d numbers, %d, %v", len(l), next, e)
	}
	wantNone(t, "one more than there are", "\x81\x80\x40"+zeros, 0)
	wantNone(t, "a count in many bytes", strings.Repeat("\x80", many), 0)
}

// P2.3: what is encoded is decoded.
func TestEncodedIsDecoded(t *testing.T) {
	for _, l := range rising() {
		s, _ := Encode(l)
		wantDecoded(t, s, 0, l, len(s))
		wantDecoded(t, "\xff"+s+"\xff", 1, l, 1+len(s))
		wantDecoded(t, "\x00"+s+"\x00", 1, l, 1+len(s))
	}
}

// encodedSo fails if something is decoded from s at the place at that was not encoded so.
func encodedSo(t *testing.T, s string, at int) {
	t.Helper()
	l, next, e := Decode(s, at)
	if e != api.OK {
		wantNone(t, "none", s, at)
		return
	}
	again, e := Encode(l)
	if e != api.OK || again != s[at:next] {
		t.Errorf("Decode(%q, %d): %v, %d; but it is encoded as %q, %v", s, at, l, next, again, e)
	}
}

// P2.3: what is decoded was encoded so: all texts of at most five bytes, out of some that are at an edge.
func TestDecodedWasEncodedSo(t *testing.T) {
	some := "\x00\x01\x02\x03\x04\x7f\x80\x81\xff"
	texts := []string{""}
	for range 5 {
		var longer []string
		for _, s := range texts {
			encodedSo(t, s, 0)
			for i := range some {
				longer = append(longer, s+some[i:i+1])
			}
		}
		texts = longer
	}
	for _, s := range texts {
		encodedSo(t, s, 0)
	}
}

// P2.3: the same about the greatest number: all texts of two gaps, one of them nine bytes long.
func TestDecodedWasEncodedSoAtGreatest(t *testing.T) {
	for a := range 256 {
		for b := range 256 {
			encodedSo(t, "\x02"+string([]byte{byte(a), byte(b)})+top[1:], 0)
			encodedSo(t, "\x02"+string([]byte{byte(a)})+top[1:]+string([]byte{byte(b)}), 0)
			encodedSo(t, "\x02\x00"+top[:7]+string([]byte{byte(a), byte(b)}), 0)
		}
	}
}

// P2.3: lists are decoded in the order in which they were encoded, and nothing is left behind them.
func TestListsFollowEachOther(t *testing.T) {
	var s strings.Builder
	for _, l := range rising() {
		one, _ := Encode(l)
		s.WriteString(one)
	}
	at := 0
	for _, want := range rising() {
		l, next, e := Decode(s.String(), at)
		if !slices.Equal(l, want) || e != api.OK {
			t.Fatalf("at %d: %v, %v; not %v", at, l, e, want)
		}
		at = next
	}
	if at != s.Len() {
		t.Errorf("%d bytes, %d of them decoded", s.Len(), at)
	}
}

// P2.3: one that is cut off is none.
func TestCutOffIsNone(t *testing.T) {
	for _, l := range rising() {
		s, _ := Encode(l)
		for k := range len(s) {
			wantNone(t, "cut off", s[:k], 0)
			wantNone(t, "cut off, behind another list", "\x00"+s[:k], 1)
		}
	}
}

// FuzzDecode: at whatever text and place, what is decoded was encoded so, and what is not decoded is told as ErrForm.
func FuzzDecode(f *testing.F) {
	for _, s := range noLists() {
		f.Add(s, 0)
	}
	for _, l := range rising() {
		s, _ := Encode(l)
		f.Add("\xff"+s, 1)
	}
	f.Fuzz(encodedSo)
}
