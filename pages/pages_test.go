package pages

import (
	"encoding/binary"
	"fmt"
	"hash/crc32"
	"math/bits"
	"slices"
	"strings"
	"testing"

	"carousel/api"
)

// sizes are the edges of how many bytes data has: those of one page, and those about the ends of the pages behind it.
var sizes = []int{0, 1, 2, 3, 61, 120, 121, 122, 123, 124, 127, 128, 129, 243, 244, 245, 246, 255, 256, 257, 365, 366, 367, 1219, 1220, 1221, 65535, 65536, 65537}

// mixed is n bytes that have no order, another text for each seed.
func mixed(n int, seed uint64) string {
	b := make([]byte, n)
	for i := range b {
		seed = seed*6364136223846793005 + 1442695040888963407
		b[i] = byte(seed >> 32)
	}
	return string(b)
}

// endingWithZeros tells s, of which the last n bytes, if there are so many, have become zeros.
func endingWithZeros(s string, n int) string {
	n = min(n, len(s))
	return s[:len(s)-n] + strings.Repeat("\x00", n)
}

// dataOf are texts of n bytes: equal bytes, bytes without an order, and some that end with zero bytes.
func dataOf(n int) []string {
	l := []string{strings.Repeat("y", n), strings.Repeat("\x00", n), strings.Repeat("\xff", n), mixed(n, 1), mixed(n, 7)}
	for _, zeros := range []int{1, 2, 5, 121, 122, 123} {
		l = append(l, endingWithZeros(mixed(n, 3), zeros))
	}
	return l
}

// summed tells the bytes of head, with zero bytes up to 124 in all, and the sum of these behind them, by the library.
func summed(head string) string {
	b := make([]byte, 124)
	copy(b, head)
	return string(binary.LittleEndian.AppendUint32(b, crc32.ChecksumIEEE(b)))
}

// telling tells 128 bytes with a right sum that tell of count bytes of data, behind which rest stands.
func telling(count int, rest string) string {
	return summed(string(binary.BigEndian.AppendUint16(nil, uint16(count))) + rest)
}

// plainPage tells the page of data, as the document says it.
func plainPage(data string) string {
	return telling(len(data), data)
}

// plainPages tells the pages of the parts of data: how many these are is reckoned, not found.
func plainPages(data string) []string {
	many := max(1, (len(data)+121)/122)
	l := make([]string, many)
	for i := range l {
		l[i] = plainPage(data[122*i : min(122*i+122, len(data))])
	}
	return l
}

// somePages are pages of which bits are turned over.
func somePages() []string {
	l := []string{plainPage(endingWithZeros(mixed(60, 2), 20))}
	for _, n := range []int{0, 1, 2, 64, 121, 122} {
		l = append(l, plainPage(mixed(n, 5)))
	}
	return append(l, plainPage(strings.Repeat("\x00", 122)), plainPage(strings.Repeat("\xff", 122)))
}

// noPages are bytes that are no page.
func noPages() map[string]string {
	page := plainPage("ab")
	low := binary.LittleEndian.Uint32([]byte(page[124:]))
	return map[string]string{
		"nothing":                        "",
		"one byte":                       "x",
		"one zero byte":                  "\x00",
		"the data alone":                 "ab",
		"a page without its last byte":   page[:127],
		"a page without its first byte":  page[1:],
		"a page without its sum":         page[:124],
		"a zero byte behind a page":      page + "\x00",
		"a zero byte ahead of a page":    "\x00" + page,
		"two pages":                      page + page,
		"128 zero bytes":                 strings.Repeat("\x00", 128),
		"128 bytes of ones":              strings.Repeat("\xff", 128),
		"a sum of 0":                     page[:124] + "\x00\x00\x00\x00",
		"a sum with its bits turned":     string(binary.LittleEndian.AppendUint32([]byte(page[:124]), ^low)),
		"a sum, the highest byte first":  string(binary.BigEndian.AppendUint32([]byte(page[:124]), low)),
		"the sum of the data alone":      string(binary.LittleEndian.AppendUint32([]byte(page[:124]), crc32.ChecksumIEEE([]byte("ab")))),
		"how many, the lower byte first": summed("\x02\x00ab"),
		"the sum of another page":        page[:124] + plainPage("ac")[124:],
	}
}

// short tells a text, cut where it is too long to be read.
func short(s string) string {
	return fmt.Sprintf("%.40q (%d bytes)", s, len(s))
}

func wantEncoded(t *testing.T, data, want string) {
	t.Helper()
	if s, e := Encode(data); s != want || e != api.OK {
		t.Errorf("Encode(%s): %q, %v; not %q, OK", short(data), s, e, want)
	}
}

func wantDecoded(t *testing.T, page, want string) {
	t.Helper()
	if s, e := Decode(page); s != want || e != api.OK {
		t.Errorf("Decode(%q): %q, %v; not %q, OK", page, s, e, want)
	}
}

func wantNone(t *testing.T, name, page string) {
	t.Helper()
	if s, e := Decode(page); s != "" || e != api.ErrPage {
		t.Errorf("%s: Decode(%s): %q, %v; not nothing, ErrPage", name, short(page), s, e)
	}
}

func wantSplit(t *testing.T, data string, want []string) {
	t.Helper()
	if l := Split(data); !slices.Equal(l, want) {
		t.Errorf("Split(%s): %d pages, which are not the %d wanted", short(data), len(l), len(want))
	}
}

func wantJoined(t *testing.T, pages []string, want string) {
	t.Helper()
	if s, e := Join(pages); s != want || e != api.OK {
		t.Errorf("Join of %d pages: %s, %v; not %s, OK", len(pages), short(s), e, short(want))
	}
}

func wantNotJoined(t *testing.T, name string, pages []string) {
	t.Helper()
	if s, e := Join(pages); s != "" || e != api.ErrPage {
		t.Errorf("%s: Join of %d pages: %s, %v; not nothing, ErrPage", name, len(pages), short(s), e)
	}
}

// P5.1: pages byte by byte, with sums that are known.
func TestEncodeTellsBytes(t *testing.T) {
	zeros := strings.Repeat("\x00", 128)
	wantEncoded(t, "", zeros[:124]+"\x0c\x0e\xd7\x15")
	wantEncoded(t, "ab", "\x00\x02ab"+zeros[:120]+"\x7f\xb7\x43\x6a")
	wantEncoded(t, "\x00", "\x00\x01"+zeros[:122]+"\x8f\x01\xff\xa2")
	full := strings.Repeat("y", 122)
	wantEncoded(t, full, "\x00\x7a"+full+"\x44\x14\xe7\x78")
}

// P5.1: data of each size that a page may have, as the document makes its page by the library's sums.
func TestEncodeMakesThePage(t *testing.T) {
	for n := range 123 {
		for _, data := range dataOf(n) {
			wantEncoded(t, data, plainPage(data))
		}
	}
}

// P5.1: data of more bytes than a page has, also where its size would be a less one in two bytes, or in one.
func TestTooLongDataIsRefused(t *testing.T) {
	for _, n := range []int{123, 124, 126, 127, 128, 129, 244, 245, 255, 256, 257, 378, 512, 1000, 65535, 65536, 65537, 65536 + 122, 1 << 20} {
		for _, data := range dataOf(n) {
			if s, e := Encode(data); s != "" || e != api.ErrLong {
				t.Errorf("Encode(%s): %s, %v; not nothing, ErrLong", short(data), short(s), e)
			}
		}
	}
}

// P5.1: what the document says of Decode.
func TestDecodeTellsData(t *testing.T) {
	page, _ := Encode("ab")
	wantDecoded(t, page, "ab")
	wantNone(t, "its byte 3 turned over", page[:3]+string([]byte{^page[3]})+page[4:])
	wantNone(t, "128 zero bytes", string(make([]byte, 128)))
	for n := range 123 {
		for _, data := range dataOf(n) {
			wantDecoded(t, plainPage(data), data)
		}
	}
}

// P5.1: bytes that are no page.
func TestNoPageIsDecoded(t *testing.T) {
	for name, s := range noPages() {
		wantNone(t, name, s)
	}
}

// P5.1: fewer or more bytes than a page's are none, whatever they begin or end with.
func TestOtherSizesAreNoPages(t *testing.T) {
	for _, page := range somePages() {
		longer := page + page + page
		for n := range len(longer) {
			if n == 128 {
				continue
			}
			wantNone(t, "cut off", longer[:n])
			wantNone(t, "cut off ahead", longer[len(longer)-n:])
			wantNone(t, "zero bytes", strings.Repeat("\x00", n))
		}
		wantNone(t, "a zero byte more ahead of the sum", page[:124]+"\x00"+page[124:])
	}
	for _, n := range []int{1, 4, 5, 124, 125, 126, 127, 129, 130, 256} {
		// The sum is right, but of another number of bytes.
		b := make([]byte, max(0, n-4))
		wantNone(t, "a right sum", string(binary.LittleEndian.AppendUint32(b, crc32.ChecksumIEEE(b))))
	}
}

// P5.1: bytes with a right sum that tell of more data than a page may have.
func TestTooManyBytesAreNoPage(t *testing.T) {
	for count := 123; count < 1<<16; count++ {
		wantNone(t, fmt.Sprint(count, " bytes, all 0"), telling(count, ""))
	}
	for _, count := range []int{123, 124, 126, 127, 128, 255, 256, 258, 256 + 122, 1 << 15, 1<<15 + 2, 65535} {
		for _, rest := range dataOf(122) {
			wantNone(t, fmt.Sprint(count, " bytes"), telling(count, rest))
		}
	}
}

// P5.1: bytes with a right sum, of which one behind the data is not 0, whichever that is.
func TestOtherBytesBehindDataAreNoPage(t *testing.T) {
	for size := range 122 {
		data := mixed(size, 4)
		for at := size; at < 122; at++ {
			for _, x := range []byte{1, 0x10, 0x80, 0xff} {
				rest := make([]byte, 122)
				copy(rest, data)
				rest[at] = x
				wantNone(t, fmt.Sprintf("%d bytes, and %d at %d", size, x, at), telling(size, string(rest)))
			}
		}
		wantNone(t, "all bytes behind the data", telling(size, data+mixed(122-size, 8)))
		wantDecoded(t, telling(size, data), data)
	}
}

// P5.2: how many pages there are, as the document tells, and that they are the pages of the parts.
func TestSplitTellsPages(t *testing.T) {
	for n, many := range map[int]int{0: 1, 1: 1, 121: 1, 122: 1, 123: 2, 243: 2, 244: 2, 245: 3, 366: 3, 367: 4, 1220: 10, 1221: 11} {
		if l := Split(strings.Repeat("y", n)); len(l) != many {
			t.Errorf("%d bytes: %d pages, not %d", n, len(l), many)
		}
	}
	data := mixed(245, 1)
	wantSplit(t, "", []string{plainPage("")})
	wantSplit(t, data[:1], []string{plainPage(data[:1])})
	wantSplit(t, data[:122], []string{plainPage(data[:122])})
	wantSplit(t, data[:123], []string{plainPage(data[:122]), plainPage(data[122:123])})
	wantSplit(t, data[:244], []string{plainPage(data[:122]), plainPage(data[122:244])})
	wantSplit(t, data, []string{plainPage(data[:122]), plainPage(data[122:244]), plainPage(data[244:])})
}

// P5.2: data of all sizes up to some, and at the edges of many pages, is parted, and its pages are joined.
func TestPartsAreSplitAndJoined(t *testing.T) {
	for n := range 500 {
		wantSplit(t, mixed(n, 6), plainPages(mixed(n, 6)))
		wantJoined(t, plainPages(mixed(n, 6)), mixed(n, 6))
	}
	for _, n := range sizes {
		for _, data := range dataOf(n) {
			wantSplit(t, data, plainPages(data))
			wantJoined(t, plainPages(data), data)
		}
	}
}

// P5.2: more pages than a file system has room for.
func TestManyPagesAreSplitAndJoined(t *testing.T) {
	data := mixed(122*(api.MaxPages+1)+1, 2)
	l := Split(data)
	if len(l) != api.MaxPages+2 {
		t.Errorf("%d pages", len(l))
	}
	wantJoined(t, l, data)
	wantJoined(t, l[:api.MaxPages+1], data[:len(data)-1])
	l[api.MaxPages] = l[api.MaxPages+1]
	wantNotJoined(t, "one byte alone ahead of the last page", l)
}

// P5.2: what the document says of Join.
func TestJoinTellsData(t *testing.T) {
	l := Split(strings.Repeat("y", 122) + "z")
	wantJoined(t, l[1:], "z")
	wantJoined(t, l[:1], strings.Repeat("y", 122))
	wantJoined(t, []string{plainPage("")}, "")
	wantNotJoined(t, "none", nil)
	wantNotJoined(t, "none", []string{})
}

// P5.2: a page that is not full is the last one; a page without data is the only one.
func TestOnlyTheLastPageIsNotFull(t *testing.T) {
	full := plainPage(mixed(122, 3))
	for many := 2; many < 6; many++ {
		for at := range many {
			for size := range 123 {
				data := mixed(size, 4)
				l := slices.Repeat([]string{full}, many)
				l[at] = plainPage(data)
				name := fmt.Sprintf("%d pages, that at %d with %d bytes", many, at, size)
				if size == 122 || size > 0 && at == many-1 {
					wantJoined(t, l, strings.Repeat(mixed(122, 3), at)+data+strings.Repeat(mixed(122, 3), many-1-at))
					continue
				}
				wantNotJoined(t, name, l)
			}
		}
	}
	none := plainPage("")
	for many := 2; many < 6; many++ {
		wantNotJoined(t, "pages without data alone", slices.Repeat([]string{none}, many))
	}
	some := plainPage("ab")
	for i, l := range [][]string{{some, some}, {some, none}, {none, some}, {none, full}, {full, none}, {some, full}, {full, some, none}, {full, none, none}} {
		wantNotJoined(t, fmt.Sprint("list ", i), l)
	}
}

// P5.2: a list in which one page is none, wherever it stands.
func TestOnePageThatIsNone(t *testing.T) {
	for _, n := range []int{1, 122, 123, 244, 245, 488, 500} {
		right := plainPages(mixed(n, 1))
		for at := range right {
			for name, s := range noPages() {
				l := slices.Clone(right)
				l[at] = s
				wantNotJoined(t, name, l)
				wantNotJoined(t, name+", put between", slices.Insert(slices.Clone(right), at, s))
				wantNotJoined(t, name+", put behind", append(slices.Clone(right), s))
			}
		}
	}
	for name, s := range noPages() {
		wantNotJoined(t, name, []string{s})
	}
	wantNotJoined(t, "two pages in one text", []string{strings.Join(plainPages(mixed(244, 1)), "")})
}

// P5.3: what is encoded is decoded.
func TestEncodedIsDecoded(t *testing.T) {
	for n := range 123 {
		for _, data := range dataOf(n) {
			page, _ := Encode(data)
			wantDecoded(t, page, data)
		}
	}
}

// encodedSo fails if something is decoded from s that was not encoded so, or that Join tells otherwise.
func encodedSo(t *testing.T, s string) {
	t.Helper()
	data, e := Decode(s)
	if e != api.OK {
		wantNone(t, "none", s)
		wantNotJoined(t, "none", []string{s})
		return
	}
	wantEncoded(t, data, s)
	wantSplit(t, data, []string{s})
	wantJoined(t, []string{s}, data)
}

// P5.3: what is decoded was encoded so: all texts with a right sum that tell of few bytes, or of many, of which a few are not 0.
func TestDecodedWasEncodedSo(t *testing.T) {
	for count := range 260 {
		for at := range 122 {
			rest := make([]byte, 122)
			rest[at] = 1
			encodedSo(t, telling(count, string(rest)))
			rest[0], rest[121] = 0xff, 0x80
			encodedSo(t, telling(count, string(rest)))
		}
		encodedSo(t, telling(count, ""))
	}
	for _, s := range noPages() {
		encodedSo(t, s)
	}
}

// P5.3: what is split is joined, zero bytes at its end included.
func TestSplitIsJoined(t *testing.T) {
	for n := range 500 {
		wantJoined(t, Split(strings.Repeat("\x00", n)), strings.Repeat("\x00", n))
	}
	for _, n := range sizes {
		for _, data := range dataOf(n) {
			wantJoined(t, Split(data), data)
		}
	}
}

// joinedSo fails if pages are joined to data that is not split into them; it tells whether they are joined.
func joinedSo(t *testing.T, l []string) bool {
	t.Helper()
	data, e := Join(l)
	if e != api.OK {
		wantNotJoined(t, "none", l)
		return false
	}
	wantSplit(t, data, l)
	return true
}

// P5.3: what is joined was split so: of all lists of at most four out of some pages, as many are joined as are split so.
func TestJoinedWasSplitSo(t *testing.T) {
	some := []string{plainPage(""), plainPage("a"), plainPage(mixed(121, 1)), plainPage(mixed(122, 1)), plainPage(strings.Repeat("\x00", 122)), "x"}
	lists := [][]string{nil}
	// One page: any of the five. More of them: two for each that is full, and four for the last one.
	for many, want := range []int{0, 5, 2 * 4, 4 * 4, 8 * 4} {
		found := 0
		var longer [][]string
		for _, l := range lists {
			if joinedSo(t, l) {
				found++
			}
			for _, page := range some {
				longer = append(longer, append(slices.Clone(l), page))
			}
		}
		if found != want {
			t.Errorf("%d lists of %d pages are joined, not %d", found, many, want)
		}
		lists = longer
	}
}

// turned tells page, with pattern put against the four bytes from at on.
func turned(page string, at int, pattern uint32) string {
	b := []byte(page)
	four := binary.LittleEndian.Uint32(b[at:])
	binary.LittleEndian.PutUint32(b[at:], four^pattern)
	return string(b)
}

// patterns are bits within four bytes: one, two, all but one, some side by side, and some that have no order.
func patterns() []uint32 {
	l := []uint32{1<<32 - 1, 0xedb88320, 0xdb710641, 0x04c11db7, 0x82608edb, 0xaaaaaaaa, 0x55555555, 0x00ff00ff, 0xff0000ff}
	for a := range 32 {
		l = append(l, 1<<a, ^uint32(1<<a), 1<<a-1|1<<31, ^uint32(1<<a-1))
		for b := range a {
			l = append(l, 1<<a|1<<b, 1<<a-1<<b)
		}
	}
	random := mixed(4*50, 11)
	for i := 0; i < len(random); i += 4 {
		l = append(l, binary.LittleEndian.Uint32([]byte(random[i:]))|1)
	}
	return l
}

// P5.3: a page of which bits within four bytes are turned over is none, wherever in it these begin.
func TestTurnedBitsAreFound(t *testing.T) {
	for _, page := range somePages() {
		for at := range 125 {
			for _, pattern := range patterns() {
				wantNone(t, fmt.Sprintf("%08x from %d on", pattern, at), turned(page, at, pattern))
			}
		}
	}
}

// P5.3: each byte of a page turned into each other one.
func TestTurnedBytesAreFound(t *testing.T) {
	for _, page := range somePages() {
		for at := range 128 {
			for x := 1; x < 256; x++ {
				b := []byte(page)
				b[at] ^= byte(x)
				wantNone(t, fmt.Sprintf("%02x at %d", x, at), string(b))
			}
		}
	}
}

// P5.3: how many bytes there are, turned into each other number of two bytes.
func TestTurnedCountIsFound(t *testing.T) {
	for _, page := range []string{plainPage(""), plainPage("ab"), plainPage(strings.Repeat("\x00", 122))} {
		for pattern := 1; pattern < 1<<16; pattern++ {
			wantNone(t, fmt.Sprintf("%04x", pattern), turned(page, 0, uint32(pattern)))
		}
	}
}

// P5.3, for all patterns: of a page with its sum the library tells one number. Wherever four bytes begin, each of their
// bits, turned over, changes it in a way that no others of them make: no bits of these leave it as it is.
func TestNoTurnedBitsKeepTheSum(t *testing.T) {
	for n := range 123 {
		page, _ := Encode(mixed(n, 5))
		whole := crc32.ChecksumIEEE([]byte(page))
		if whole != 0x2144df1c {
			t.Errorf("%q: %08x", page, whole)
		}
		for at := range 125 {
			var changes [33]uint32 // by how many bits they have
			for bit := range 32 {
				change := whole ^ crc32.ChecksumIEEE([]byte(turned(page, at, 1<<bit)))
				for change != 0 && changes[bits.Len32(change)] != 0 {
					change ^= changes[bits.Len32(change)]
				}
				if change == 0 {
					t.Fatalf("from %d on, the bit %d changes what others do", at, bit)
				}
				changes[bits.Len32(change)] = change
			}
		}
	}
}

// R6: one burst of at most 32 bits in a page, each byte's lowest first, wherever it begins.
func TestBurstsAreFound(t *testing.T) {
	for _, page := range somePages() {
		for from := range 8 * 128 {
			for _, pattern := range []uint32{1, 3, 1<<31 | 1, 1<<32 - 1, 0xedb88321, 0xdb710641, 0x82608edb, 0x9e3779b9} {
				b := []byte(page)
				for k := range min(32, 8*128-from) {
					b[(from+k)/8] ^= byte(pattern>>k&1) << ((from + k) % 8)
				}
				wantNone(t, fmt.Sprintf("%08x from the bit %d on", pattern, from), string(b))
			}
		}
	}
}

// P5.3: pages that were split are joined no more, if bits of one of them are turned over.
func TestTurnedBitsAreNotJoined(t *testing.T) {
	for _, n := range []int{0, 1, 122, 123, 244, 245} {
		right := Split(mixed(n, 12))
		for i, page := range right {
			for at := range 125 {
				for _, pattern := range []uint32{1, 1 << 31, 1<<32 - 1, 0xedb88320} {
					l := slices.Clone(right)
					l[i] = turned(page, at, pattern)
					wantNotJoined(t, fmt.Sprintf("%08x in the page %d", pattern, i), l)
				}
			}
		}
	}
}

// R4: what is handed in stays as it was.
func TestListStaysAsItWas(t *testing.T) {
	for _, l := range [][]string{Split(mixed(300, 1)), {"x"}, {plainPage(""), plainPage("a")}} {
		was := slices.Clone(l)
		Join(l)
		if !slices.Equal(l, was) {
			t.Errorf("%q has become %q", was, l)
		}
	}
}

// R4: lists that are told are the caller's own.
func TestToldListIsNew(t *testing.T) {
	data := mixed(300, 1)
	first := Split(data)
	first[0] = "x"
	_ = append(first[:1], "y", "z")
	wantSplit(t, data, plainPages(data))
}

// FuzzDecode: whatever bytes, with a right sum behind them or not, what is decoded was encoded so.
func FuzzDecode(f *testing.F) {
	for _, s := range noPages() {
		f.Add(s)
	}
	for _, page := range somePages() {
		f.Add(page)
	}
	f.Fuzz(func(t *testing.T, s string) {
		encodedSo(t, s)
		encodedSo(t, summed(s[:min(len(s), 124)]))
		if len(s) > 122 {
			wantSplit(t, s, plainPages(s))
		}
		wantJoined(t, Split(s), s)
	})
}

// FuzzJoin: whatever parts, their pages are joined just if these are the pages into which they are parted all together.
func FuzzJoin(f *testing.F) {
	f.Add(mixed(300, 1), 122, 122)
	f.Add(mixed(244, 1), 122, 122)
	f.Add(mixed(122, 1), 122, 0)
	f.Add("ab", 0, 1)
	f.Add("", 0, 0)
	f.Fuzz(func(t *testing.T, data string, first, second int) {
		a := min(max(first, 0), 122, len(data))
		b := min(max(second, 0), 122, len(data)-a)
		c := min(122, len(data)-a-b)
		data = data[:a+b+c]
		l := []string{plainPage(data[:a]), plainPage(data[a : a+b]), plainPage(data[a+b:])}
		for many, end := range map[int]int{1: a, 2: a + b, 3: a + b + c} {
			if slices.Equal(l[:many], plainPages(data[:end])) {
				wantJoined(t, l[:many], data[:end])
			} else {
				wantNotJoined(t, "parts", l[:many])
			}
		}
	})
}
