package packed

import (
	"fmt"
	"math"
	"math/big"
	"math/bits"
	"slices"
	"strings"
	"testing"

	"carousel/api"
)

// wrongWidths are no widths of a table.
var wrongWidths = []int{-1, -2, -32, math.MinInt, math.MinInt + 1, 33, 34, 64, 65, 1 << 32, 1<<32 + 3, math.MaxInt - 1, math.MaxInt}

// wrongCounts are no numbers of numbers, nor places.
var wrongCounts = []int{-1, -2, -65536, math.MinInt, math.MinInt + 1}

// mixed are many numbers that may stand in width bits, the greatest and the least of these among them.
func mixed(many, width int) []int {
	l := make([]int, many)
	n := uint64(1)
	for i := range l {
		n = n*6364136223846793005 + 1442695040888963407
		switch i % 5 {
		case 0:
			l[i] = 1<<width - 1
		case 3:
			l[i] = 0
		default:
			l[i] = int(n >> 32 & (1<<width - 1))
		}
	}
	return l
}

// tables tells for one width: tables of all lengths up to some, and tables whose numbers are all the same.
func tables(width int) [][]int {
	l := [][]int{nil, {}}
	for many := range 34 {
		l = append(l, mixed(many, width))
		for _, n := range []int{0, 1, 1<<width - 1, 1 << width >> 1, (1<<width - 1) / 3} {
			if n < 1<<width {
				l = append(l, slices.Repeat([]int{n}, many))
			}
		}
	}
	return append(l, mixed(1000, width), mixed(1001, width))
}

// bytesOf tells the bytes of a table by the library's binary digits: the last number's are written first.
func bytesOf(l []int, width int) string {
	if len(l) == 0 || width == 0 {
		return ""
	}
	var digits strings.Builder
	for _, n := range slices.Backward(l) {
		fmt.Fprintf(&digits, "%0*b", width, n)
	}
	whole, _ := new(big.Int).SetString(digits.String(), 2)
	b := whole.FillBytes(make([]byte, (digits.Len()+7)/8))
	slices.Reverse(b)
	return string(b)
}

// short tells a value, cut where it is too long to be read.
func short(v any) string {
	s := fmt.Sprintf("%v", v)
	if b, ok := v.(string); ok {
		s = fmt.Sprintf("%q", b)
	}
	return s[:min(len(s), 200)]
}

func wantWidth(t *testing.T, l []int, want int) {
	t.Helper()
	if w := Width(l); w != want {
		t.Errorf("Width(%s): %d, not %d", short(l), w, want)
	}
}

func wantPacked(t *testing.T, l []int, width int, want string) {
	t.Helper()
	if s, e := Pack(l, width); s != want || e != api.OK {
		t.Errorf("Pack(%s, %d): %s, %v; not %s, OK", short(l), width, short(s), e, short(want))
	}
}

func wantNotPacked(t *testing.T, l []int, width int, want api.Errno) {
	t.Helper()
	if s, e := Pack(l, width); s != "" || e != want {
		t.Errorf("Pack(%s, %d): %s, %v; not nothing, %v", short(l), width, short(s), e, want)
	}
}

func wantUnpacked(t *testing.T, s string, many, width int, want []int) {
	t.Helper()
	if l, e := Unpack(s, many, width); !slices.Equal(l, want) || e != api.OK {
		t.Errorf("Unpack(%s, %d, %d): %s, %v; not %s, OK", short(s), many, width, short(l), e, short(want))
	}
}

func wantNotUnpacked(t *testing.T, s string, many, width int, want api.Errno) {
	t.Helper()
	if l, e := Unpack(s, many, width); len(l) != 0 || e != want {
		t.Errorf("Unpack(%s, %d, %d): %s, %v; not nothing, %v", short(s), many, width, short(l), e, want)
	}
}

func wantAt(t *testing.T, s string, i, width, want int) {
	t.Helper()
	if n, e := At(s, i, width); n != want || e != api.OK {
		t.Errorf("At(%s, %d, %d): %d, %v; not %d, OK", short(s), i, width, n, e, want)
	}
}

func wantNothingAt(t *testing.T, s string, i, width int, want api.Errno) {
	t.Helper()
	if n, e := At(s, i, width); n != 0 || e != want {
		t.Errorf("At(%s, %d, %d): %d, %v; not 0, %v", short(s), i, width, n, e, want)
	}
}

// P4.1: what the document says of Width, list by list.
func TestWidthIsTheLeast(t *testing.T) {
	wantWidth(t, []int{0, 5}, 3)
	wantWidth(t, nil, 0)
	wantWidth(t, []int{}, 0)
	wantWidth(t, []int{0}, 0)
	wantWidth(t, []int{0, 0, 0}, 0)
	wantWidth(t, []int{1}, 1)
	wantWidth(t, []int{2}, 2)
	wantWidth(t, []int{3, 2, 1}, 2)
	wantWidth(t, []int{4, 8}, 4)
	wantWidth(t, []int{1, 255, 1}, 8)
	wantWidth(t, []int{256, 1}, 9)
}

// P4.1: the greatest number of each width, and the first one that needs one bit more.
func TestWidthGoesUpAtPowersOfTwo(t *testing.T) {
	for w := range 33 {
		wantWidth(t, []int{1<<w - 1}, w)
		wantWidth(t, []int{1 << w}, w+1)
		wantWidth(t, []int{0, 1<<w - 1, 0}, w)
		wantWidth(t, []int{0, 1 << w, 0}, w+1)
	}
}

// P4.1: a number below 0, or above 2^32 - 1, stands in no width up to 32.
func TestNoWidthIsTold(t *testing.T) {
	for _, n := range []int{
		-1, -2, -1 << 31, -1 << 32, math.MinInt, math.MinInt + 1, math.MinInt + 5,
		1 << 32, 1<<32 + 1, 1 << 33, 1 << 40, 1 << 48, 1 << 62, math.MaxInt - 1, math.MaxInt,
	} {
		wantWidth(t, []int{n}, 33)
		wantWidth(t, []int{n, 0}, 33)
		wantWidth(t, []int{0, n, 5}, 33)
		wantWidth(t, []int{1<<32 - 1, n}, 33)
		wantWidth(t, []int{n, -1, n}, 33)
	}
}

// P4.1: the widest number counts wherever it stands, and lists may be longer than tables.
func TestWidthLooksAtEachNumber(t *testing.T) {
	for at := range 100 {
		l := slices.Repeat([]int{1}, 100)
		l[at] = 77
		wantWidth(t, l, 7)
		l[at] = -1
		wantWidth(t, l, 33)
	}
	long := make([]int, maxMany+10)
	wantWidth(t, long, 0)
	long[maxMany+9] = 1<<20 + 1
	wantWidth(t, long, 21)
}

// P4.2: what the document says of Pack, table by table.
func TestPackTellsBytes(t *testing.T) {
	wantPacked(t, []int{1, 2, 3}, 3, "\xd1\x00")
	wantPacked(t, []int{1, 0, 1, 1}, 1, "\x0d")
	wantPacked(t, []int{1, 0, 1, 1, 0, 0, 0, 0, 1}, 1, "\x0d\x01")
	wantPacked(t, []int{1, 2, 255}, 8, "\x01\x02\xff")
	wantPacked(t, []int{127, 0, 1}, 7, "\x7f\x40\x00")
	wantPacked(t, []int{256, 1}, 9, "\x00\x03\x00")
	wantPacked(t, []int{0x12345}, 17, "\x45\x23\x01")
	wantPacked(t, []int{1, 1<<31 - 1}, 31, "\x01\x00\x00\x80\xff\xff\xff\x3f")
	wantPacked(t, []int{0x01020304, 1<<32 - 1}, 32, "\x04\x03\x02\x01\xff\xff\xff\xff")
	wantPacked(t, []int{0}, 32, "\x00\x00\x00\x00")
	wantPacked(t, []int{0, 0, 0}, 2, "\x00")
}

// P4.2: no numbers, or numbers without bits, have no bytes.
func TestNothingIsPackedAsNothing(t *testing.T) {
	for width := range 33 {
		wantPacked(t, nil, width, "")
		wantPacked(t, []int{}, width, "")
		wantUnpacked(t, "", 0, width, nil)
	}
	for many := range 20 {
		wantPacked(t, make([]int, many), 0, "")
		wantUnpacked(t, "", many, 0, make([]int, many))
	}
}

// P4.2: tables of all widths, by the library's digits.
func TestPackAgreesWithTheLibrary(t *testing.T) {
	for width := range 33 {
		for _, l := range tables(width) {
			wantPacked(t, l, width, bytesOf(l, width))
		}
	}
}

// P4.2: Unpack tells the numbers of bytes that the library made.
func TestUnpackAgreesWithTheLibrary(t *testing.T) {
	for width := range 33 {
		for _, l := range tables(width) {
			wantUnpacked(t, bytesOf(l, width), len(l), width, l)
		}
	}
}

// P4.2: 65536 numbers are a table, one more are none.
func TestTablesHaveAtMostSoManyNumbers(t *testing.T) {
	for _, width := range []int{0, 1, 7, 8, 9, 31, 32} {
		l := mixed(65537, width)
		for _, many := range []int{65535, 65536} {
			s := bytesOf(l[:many], width)
			wantPacked(t, l[:many], width, s)
			wantUnpacked(t, s, many, width, l[:many])
		}
		wantNotPacked(t, l, width, api.ErrLong)
		wantNotUnpacked(t, bytesOf(l, width), 65537, width, api.ErrLong)
		for _, many := range []int{65537, 65538, 1 << 20, 1 << 32, 1 << 59, 1 << 61, math.MaxInt - 1, math.MaxInt} {
			wantNotUnpacked(t, "", many, width, api.ErrLong)
			wantNotUnpacked(t, "\x00", many, width, api.ErrLong)
		}
	}
	wantNotPacked(t, make([]int, 1<<20), 0, api.ErrLong)
}

// P4.2, P4.3: widths that there are not are told ahead of all else.
func TestWrongWidthsAreRefused(t *testing.T) {
	for _, width := range wrongWidths {
		wantNotPacked(t, nil, width, api.ErrArg)
		wantNotPacked(t, []int{0}, width, api.ErrArg)
		wantNotPacked(t, []int{1, -1}, width, api.ErrArg)
		wantNotPacked(t, make([]int, 65537), width, api.ErrArg)
		for _, s := range []string{"", "\x00", "\xd1\x00", strings.Repeat("\x00", 1000)} {
			for _, n := range append([]int{0, 1, 3, 65536, 65537, 1 << 59, math.MaxInt}, wrongCounts...) {
				wantNotUnpacked(t, s, n, width, api.ErrArg)
				wantNothingAt(t, s, n, width, api.ErrArg)
			}
		}
	}
}

// P4.2: a number that may not stand in so many bits is refused wherever it is, in a list that is too long as well.
func TestWrongNumbersAreRefused(t *testing.T) {
	for width := range 33 {
		for _, wrong := range []int{1 << width, 1<<width + 1, 1 << 33, 1 << 40, math.MaxInt, -1, -2, -1 << 32, math.MinInt, math.MinInt + 1} {
			wantNotPacked(t, []int{wrong}, width, api.ErrArg)
			for at := range 9 {
				l := mixed(9, width)
				l[at] = wrong
				wantNotPacked(t, l, width, api.ErrArg)
			}
		}
		long := make([]int, 65537)
		long[65536] = 1 << width
		wantNotPacked(t, long, width, api.ErrArg)
		long[65536] = -1
		wantNotPacked(t, long, width, api.ErrArg)
		long[65536] = 1<<width - 1
		wantNotPacked(t, long, width, api.ErrLong)
	}
	wantNotPacked(t, []int{8}, 3, api.ErrArg)
}

// P4.2: there is no table of fewer than no numbers.
func TestWrongCountsAreRefused(t *testing.T) {
	for width := range 33 {
		for _, many := range wrongCounts {
			for _, s := range []string{"", "\x00", "\xd1\x00", strings.Repeat("\x00", 1000)} {
				wantNotUnpacked(t, s, many, width, api.ErrArg)
			}
		}
	}
}

// P4.2: bytes that are too few or too many, were they all 0, are no table's.
func TestWrongSizesAreNoTables(t *testing.T) {
	wantNotUnpacked(t, "\xd1\x00", 2, 3, api.ErrForm)
	wantNotUnpacked(t, "\xd1", 3, 3, api.ErrForm)
	wantNotUnpacked(t, "\xd1\x00\x00", 3, 3, api.ErrForm)
	wantNotUnpacked(t, "\x00", 0, 3, api.ErrForm)
	wantNotUnpacked(t, "\x00", 3, 0, api.ErrForm)
	wantNotUnpacked(t, "\x00", 65536, 0, api.ErrForm)
	wantNotUnpacked(t, "", 65536, 32, api.ErrForm)
	for width := range 33 {
		for many := range 20 {
			right := (many*width + 7) / 8
			for size := range right + 10 {
				if size == right {
					wantUnpacked(t, strings.Repeat("\x00", size), many, width, make([]int, many))
					continue
				}
				wantNotUnpacked(t, strings.Repeat("\x00", size), many, width, api.ErrForm)
			}
			s := bytesOf(mixed(many, width), width)
			wantNotUnpacked(t, s+"\x00", many, width, api.ErrForm)
			if s != "" {
				wantNotUnpacked(t, s[:len(s)-1], many, width, api.ErrForm)
				wantNotUnpacked(t, s[1:], many, width, api.ErrForm)
			}
		}
	}
}

// P4.2: each of the bits behind the last number must be 0; where there are none, all bytes are a table's.
func TestOtherBitsAreNoTables(t *testing.T) {
	wantNotUnpacked(t, "\xd1\x02", 3, 3, api.ErrForm)
	wantNotUnpacked(t, "\xd1\x80", 3, 3, api.ErrForm)
	wantUnpacked(t, "\xd1\x01", 3, 3, []int{1, 2, 7})
	for width := range 33 {
		for many := range 20 {
			l := mixed(many, width)
			b := []byte(bytesOf(l, width))
			for bit := many * width; bit < 8*len(b); bit++ {
				b[bit/8] ^= 1 << (bit % 8)
				wantNotUnpacked(t, string(b), many, width, api.ErrForm)
				b[bit/8] ^= 1 << (bit % 8)
			}
			if many*width%8 == 0 {
				all := slices.Repeat([]int{1<<width - 1}, many)
				wantUnpacked(t, strings.Repeat("\xff", len(b)), many, width, all)
			}
		}
	}
}

// P4.3: what the document says of At, call by call.
func TestAtTellsNumber(t *testing.T) {
	for i, want := range []int{1, 2, 3, 0, 0} {
		wantAt(t, "\xd1\x00", i, 3, want)
	}
	wantNothingAt(t, "\xd1\x00", 5, 3, api.ErrNone)
	wantAt(t, "\x00\x03\x00", 0, 9, 256)
	wantAt(t, "\x00\x03\x00", 1, 9, 1)
	wantNothingAt(t, "\x00\x03\x00", 2, 9, api.ErrNone)
	wantAt(t, "\x04\x03\x02\x01\xff\xff\xff\xff", 0, 32, 0x01020304)
	wantAt(t, "\x04\x03\x02\x01\xff\xff\xff\xff", 1, 32, 1<<32-1)
	wantNothingAt(t, "\x04\x03\x02\x01\xff\xff\xff\xff", 2, 32, api.ErrNone)
	wantAt(t, "\x01\x00\x00\x80\xff\xff\xff\x3f", 1, 31, 1<<31-1)
}

// P4.3: At is told by the text's bits alone: those behind a table's last number count as well.
func TestAtLooksAtOtherBits(t *testing.T) {
	for i, want := range []int{1, 2, 3, 1, 7} {
		wantAt(t, "\xd1\x72", i, 3, want)
	}
	wantNothingAt(t, "\xd1\x72", 5, 3, api.ErrNone)
	wantAt(t, "\xff\xff\xff\xff\xff", 0, 32, 1<<32-1)
	wantNothingAt(t, "\xff\xff\xff\xff\xff", 1, 32, api.ErrNone)
}

// P4.3: the last number that there is, and the first one that there is not, for all widths and sizes.
func TestAtEndsWithTheBits(t *testing.T) {
	for width := 1; width <= 32; width++ {
		for size := range 40 {
			many := 0
			for (many+1)*width <= 8*size {
				many++
			}
			s := strings.Repeat("\xff", size)
			for i := range many {
				wantAt(t, s, i, width, 1<<width-1)
			}
			for i := many; i < many+5; i++ {
				wantNothingAt(t, s, i, width, api.ErrNone)
			}
		}
	}
}

// P4.3: places whose bits can't be counted, or whose count wraps round to one that there is.
func TestNothingStandsFarBehind(t *testing.T) {
	for width := 1; width <= 32; width++ {
		far := []int{65536, 1 << 31, 1 << 32, math.MaxInt - 1, math.MaxInt}
		for k := 57; k < 63; k++ {
			far = append(far, 1<<k-2, 1<<k-1, 1<<k, 1<<k+1)
		}
		for times := uint64(1); 2*times < uint64(width); times++ {
			// Behind i places the count of bits is about 2^64 times that.
			i, _ := bits.Div64(times, 0, uint64(width))
			far = append(far, int(i)-1, int(i), int(i)+1)
		}
		for _, i := range far {
			for _, s := range []string{"", "\x00", "\xff\xff\xff\xff\xff\xff\xff\xff", strings.Repeat("\xff", 1000)} {
				wantNothingAt(t, s, i, width, api.ErrNone)
			}
		}
	}
}

// P4.3: a number of no bits is 0, and stands everywhere, in a text without bytes as well.
func TestNumbersWithoutBitsStandEverywhere(t *testing.T) {
	for _, s := range []string{"", "\x00", "\xff", "\xd1\x00"} {
		for _, i := range []int{0, 1, 7, 8, 16, 65535, 65536, 65537, 1 << 32, 1 << 59, math.MaxInt - 1, math.MaxInt} {
			wantAt(t, s, i, 0, 0)
		}
	}
}

// P4.3: nothing stands ahead of the beginning.
func TestWrongPlacesAreRefused(t *testing.T) {
	for width := range 33 {
		for _, i := range wrongCounts {
			for _, s := range []string{"", "\x00", "\xd1\x00", strings.Repeat("\x00", 1000)} {
				wantNothingAt(t, s, i, width, api.ErrArg)
			}
		}
	}
}

// P4.3: At has no limit but the text's end.
func TestAtReachesBehindTables(t *testing.T) {
	l := mixed(70000, 13)
	s := bytesOf(l, 13)
	for i := 65530; i < 70000; i++ {
		wantAt(t, s, i, 13, l[i])
	}
	wantNothingAt(t, s, 70000, 13, api.ErrNone)
}

// P4.4: what is packed is unpacked, and At tells each of the numbers.
func TestPackedIsUnpacked(t *testing.T) {
	for width := range 33 {
		for _, l := range tables(width) {
			s, _ := Pack(l, width)
			wantUnpacked(t, s, len(l), width, l)
			for i, n := range l {
				wantAt(t, s, i, width, n)
			}
		}
	}
}

// P4.4: Width tells the least width in which a table is packed.
func TestWidthIsEnoughToPack(t *testing.T) {
	for width := range 33 {
		for _, l := range tables(width) {
			w := Width(l)
			s, e := Pack(l, w)
			if e != api.OK {
				t.Errorf("Pack(%s, %d): %v", short(l), w, e)
			}
			wantUnpacked(t, s, len(l), w, l)
			wantNotPacked(t, l, w-1, api.ErrArg)
		}
	}
}

// packedSo fails if something is unpacked from s that was not packed so, or that At tells otherwise; it tells whether something was unpacked.
func packedSo(t *testing.T, s string, many, width int) bool {
	t.Helper()
	l, e := Unpack(s, many, width)
	if e != api.OK {
		wantNotUnpacked(t, s, many, width, e)
		return false
	}
	if len(l) != many {
		t.Errorf("Unpack(%s, %d, %d): %d numbers", short(s), many, width, len(l))
	}
	wantPacked(t, l, width, s)
	for i, n := range l {
		wantAt(t, s, i, width, n)
	}
	return true
}

// P4.4: what is unpacked was packed so: of all texts of at most two bytes, as many are tables as there are tables.
func TestUnpackedWasPackedSo(t *testing.T) {
	texts := []string{""}
	for a := range 256 {
		texts = append(texts, string([]byte{byte(a)}))
		for b := range 256 {
			texts = append(texts, string([]byte{byte(a), byte(b)}))
		}
	}
	for _, x := range []struct{ many, width int }{
		{0, 0}, {0, 5}, {3, 0}, {1, 1}, {7, 1}, {8, 1}, {9, 1}, {16, 1},
		{3, 3}, {5, 3}, {2, 4}, {3, 5}, {1, 7}, {2, 7}, {1, 8}, {2, 8}, {1, 9}, {1, 15}, {1, 16},
	} {
		found := 0
		for _, s := range texts {
			if packedSo(t, s, x.many, x.width) {
				found++
			}
		}
		if want := 1 << (x.many * x.width); found != want {
			t.Errorf("%d texts are tables of %d numbers in %d bits, not %d", found, x.many, x.width, want)
		}
	}
}

// R4: what is handed in stays as it was.
func TestListStaysAsItWas(t *testing.T) {
	for _, l := range [][]int{{1, 2, 3}, {8}, {-1, 5, 1 << 40}, mixed(1000, 3)} {
		was := slices.Clone(l)
		Width(l)
		Pack(l, 3)
		if !slices.Equal(l, was) {
			t.Errorf("%s has become %s", short(was), short(l))
		}
	}
}

// R4: lists that are told are the caller's own.
func TestToldListIsNew(t *testing.T) {
	first, _ := Unpack("\xd1\x00", 3, 3)
	first[0] = 9
	_ = append(first[:1], 9)
	wantUnpacked(t, "\xd1\x00", 3, 3, []int{1, 2, 3})
}

// FuzzUnpack: at whatever text, count and width, what is unpacked was packed so, and beside an error nothing is told.
func FuzzUnpack(f *testing.F) {
	f.Add("\xd1\x00", 3, 3)
	f.Add("\xd1\x02", 3, 3)
	f.Add("", 65537, 0)
	f.Add("\xff", -1, 1)
	for _, width := range []int{0, 1, 7, 8, 9, 31, 32} {
		l := mixed(11, width)
		f.Add(bytesOf(l, width), len(l), width)
	}
	f.Fuzz(func(t *testing.T, s string, many, width int) {
		packedSo(t, s, many, width)
		if n, e := At(s, many, width); e != api.OK {
			wantNothingAt(t, s, many, width, e)
		} else if width < 0 || width > 32 || n < 0 || n >= 1<<width {
			t.Errorf("At(%s, %d, %d): %d", short(s), many, width, n)
		}
	})
}
