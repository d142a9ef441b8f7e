package sums

import (
	"encoding/binary"
	"hash/crc32"
	"math"
	"strings"
	"testing"
)

// residue is the sum of each text that has its sum behind it.
const residue = 0x2144df1c

// registers are registers of no ones, of one, of two side by side, of 31, of 32, and some that have no order.
func registers() []uint32 {
	l := []uint32{0, math.MaxUint32, 0xedb88320, 0xcbf43926, 0xd202ef8d, 0x2144df1c, 0x12345678, 0xaaaaaaaa, 0x55555555}
	for k := range 32 {
		one := uint32(1) << k
		l = append(l, one, one|one<<1, ^one, one-1, ^(one - 1))
	}
	return append(l, mixed(20)...)
}

// mixed are numbers that have no order, the same ones each time.
func mixed(count int) []uint32 {
	var l []uint32
	n := uint64(1)
	for range count {
		n = n*6364136223846793005 + 1442695040888963407
		l = append(l, uint32(n>>32))
	}
	return l
}

// mixedText is n bytes that have no order, another text for each seed.
func mixedText(n int, seed byte) string {
	b := make([]byte, n)
	for i, m := range mixed(n) {
		b[i] = byte(m>>8) ^ byte(m>>16)*seed ^ seed
	}
	return string(b)
}

// texts are short ones and long ones: each byte alone, equal bytes, bytes without an order.
func texts() []string {
	l := []string{"", "123456789", "carousel", "\x00\x00", "\xff\xff", "\x00\xff", "\xff\x00", "\xff\xff\xff\xff", "g\u00e4\u4e16"}
	for b := range 256 {
		l = append(l, string([]byte{byte(b)}))
	}
	for _, n := range []int{2, 3, 4, 5, 7, 8, 31, 32, 33, 121, 122, 124, 128, 255, 256, 1000, 4096} {
		l = append(l, strings.Repeat("\x00", n), strings.Repeat("\xff", n), strings.Repeat("a", n), mixedText(n, 1), mixedText(n, 7))
	}
	return l
}

// in tells r, into which b went, bit by bit, as the document says it.
func in(r uint32, b byte) uint32 {
	r ^= uint32(b)
	for range 8 {
		out := r & 1
		r >>= 1
		if out == 1 {
			r ^= 0xedb88320
		}
	}
	return r
}

// withZeros tells r, into which n zero bytes went one by one.
func withZeros(r uint32, n int) uint32 {
	for range n {
		r = in(r, 0)
	}
	return r
}

func wantSum(t *testing.T, s string, want uint32) {
	t.Helper()
	if n := Sum(s); n != want {
		t.Errorf("Sum(%.40q, of %d bytes): %08x, not %08x", s, len(s), n, want)
	}
}

func wantMore(t *testing.T, sum uint32, s string, want uint32) {
	t.Helper()
	if n := More(sum, s); n != want {
		t.Errorf("More(%08x, %.40q, of %d bytes): %08x, not %08x", sum, s, len(s), n, want)
	}
}

func wantJoined(t *testing.T, a, b uint32, n int, want uint32) {
	t.Helper()
	if got := Join(a, b, n); got != want {
		t.Errorf("Join(%08x, %08x, %d): %08x, not %08x", a, b, n, got, want)
	}
}

// P3.1: what the document says of Sum, and sums that are known of old.
func TestSumTellsKnownSums(t *testing.T) {
	wantSum(t, "123456789", 0xcbf43926)
	wantSum(t, "", 0)
	wantSum(t, "\x00", 0xd202ef8d)
	wantSum(t, "\xff", 0xff000000)
	wantSum(t, "\xff\xff\xff\xff", 0xffffffff)
	wantSum(t, "a", 0xe8b7be43)
	wantSum(t, "abc", 0x352441c2)
	wantSum(t, "The quick brown fox jumps over the lazy dog", 0x414fa339)
	wantSum(t, strings.Repeat("\x00", 32), 0x190a55ad)
	wantSum(t, strings.Repeat("\xff", 32), 0xff6cab0b)
}

// P3.1: sums as the document makes them, and as the library does.
func TestSumAgreesWithTheLibrary(t *testing.T) {
	for _, s := range texts() {
		r := uint32(math.MaxUint32)
		for i := range len(s) {
			r = in(r, s[i])
		}
		wantSum(t, s, ^r)
		wantSum(t, s, crc32.ChecksumIEEE([]byte(s)))
	}
}

// P3.1: all texts of two bytes.
func TestSumOfEachTwoBytes(t *testing.T) {
	for a := range 256 {
		for b := range 256 {
			two := []byte{byte(a), byte(b)}
			wantSum(t, string(two), crc32.ChecksumIEEE(two))
		}
	}
}

// P3.1: a text of many bytes.
func TestSumOfManyBytes(t *testing.T) {
	const many = 1 << 20
	for _, s := range []string{strings.Repeat("\x00", many), strings.Repeat("carousel", many/8), mixedText(many+1, 3)} {
		wantSum(t, s, crc32.ChecksumIEEE([]byte(s)))
	}
}

// P3.1: More goes on from whatever sum, a text's or not.
func TestMoreGoesOnFromEachSum(t *testing.T) {
	for _, sum := range registers() {
		wantMore(t, sum, "", sum)
		for _, s := range texts() {
			wantMore(t, sum, s, crc32.Update(sum, crc32.IEEETable, []byte(s)))
		}
	}
	// 32 ones turned over are none: no zero byte changes them.
	wantMore(t, math.MaxUint32, "\x00\x00\x00", math.MaxUint32)
	wantMore(t, 0, "\x00", 0xd202ef8d)
}

// P3.1: each byte goes into each of many registers.
func TestEachByteGoesIn(t *testing.T) {
	for _, r := range registers() {
		for b := range 256 {
			wantMore(t, ^r, string([]byte{byte(b)}), ^in(r, byte(b)))
		}
	}
}

// P3.1: a sum that is gone on with is that of the whole text, wherever it is cut.
func TestMoreIsSumOfTheWhole(t *testing.T) {
	for _, s := range []string{"", "1", "123456789", mixedText(200, 5)} {
		for k := range len(s) + 1 {
			wantMore(t, Sum(s[:k]), s[k:], Sum(s))
		}
		sum := uint32(0)
		for i := range len(s) {
			sum = More(sum, s[i:i+1])
		}
		wantSum(t, s, sum)
	}
}

// P3.2: what the document says of Join.
func TestJoinTellsExamples(t *testing.T) {
	wantJoined(t, Sum("1234"), Sum("56789"), 5, 0xcbf43926)
	wantJoined(t, 0x9be3e0a3, 0x131da070, 5, 0xcbf43926)
	wantJoined(t, 7, 2, 0, 5)
}

// P3.2: so many zero bytes go in as one by one, from none on.
func TestZeroBytesGoInOneByOne(t *testing.T) {
	for _, a := range registers() {
		r := a
		for n := range 300 {
			wantJoined(t, a, 0, n, r)
			wantJoined(t, a, 0xcbf43926, n, r^0xcbf43926)
			r = in(r, 0)
		}
	}
}

// P3.2: many zero bytes, about each edge at which their number gets one bit more.
func TestManyZeroBytesGoIn(t *testing.T) {
	for _, a := range []uint32{1, 0x80000000, math.MaxUint32, 0xcbf43926} {
		r, at := a, 0
		for k := range 21 {
			for _, n := range []int{1<<k - 1, 1 << k, 1<<k + 1} {
				if n < at {
					continue
				}
				r, at = withZeros(r, n-at), n
				wantJoined(t, a, 0, n, r)
			}
		}
	}
}

// P3.2: b is put against it, whatever both are; no zero bytes change nothing.
func TestLatterSumIsPutAgainst(t *testing.T) {
	for _, a := range registers() {
		for _, b := range registers() {
			wantJoined(t, a, b, 0, a^b)
			wantJoined(t, a, b, 1, in(a, 0)^b)
			wantJoined(t, a, b, 5, withZeros(a, 5)^b)
		}
	}
}

// P3.2: a register of no ones stays so; what is put against itself is none.
func TestRegisterOfNoOnesStays(t *testing.T) {
	for _, n := range []int{0, 1, 2, 1000, math.MaxInt32, math.MaxInt - 1, math.MaxInt} {
		for _, b := range registers() {
			wantJoined(t, 0, b, n, b)
			wantJoined(t, b, Join(b, 0, n), n, 0)
		}
	}
}

// P3.2: as many zero bytes as there can be. A register is the same again behind 2^32 - 1 zero bits, and
// 2^63 - 1 bytes are four bits less than a multiple of that: four bits more are the register that was at first.
func TestMostZeroBytesGoIn(t *testing.T) {
	fourBits := func(r uint32) uint32 {
		for range 4 {
			r = r>>1 ^ (r&1)*0xedb88320
		}
		return r
	}
	for _, a := range registers() {
		if r := fourBits(Join(a, 0, math.MaxInt)); r != a {
			t.Errorf("%08x has become %08x", a, r)
		}
		if r := fourBits(in(Join(a, 0, math.MaxInt-1), 0)); r != a {
			t.Errorf("%08x has become %08x, by a byte less and one more", a, r)
		}
		for _, round := range []int{math.MaxUint32, 2 * math.MaxUint32, math.MaxUint32 << 20, math.MaxUint32 * (1<<31 - 1)} {
			wantJoined(t, a, 0, round, a)
			wantJoined(t, a, 0, round+3, withZeros(a, 3))
		}
	}
}

// P3.2: a number of zero bytes that is below 0.
func TestBelowNoZeroBytesIsNothing(t *testing.T) {
	for _, n := range []int{-1, -2, -8, math.MinInt32, math.MinInt + 1, math.MinInt} {
		for _, a := range registers() {
			wantJoined(t, a, 0, n, 0)
			wantJoined(t, 0, a, n, 0)
			wantJoined(t, a, a, n, 0)
			wantJoined(t, a, ^a, n, 0)
		}
	}
}

// P3.3: a text with its sum behind it, the lowest byte first, has one sum whatever the text.
func TestTextWithItsSumBehindIt(t *testing.T) {
	for _, s := range texts() {
		whole := string(binary.LittleEndian.AppendUint32([]byte(s), Sum(s)))
		wantSum(t, whole, residue)
		wantMore(t, Sum(s), whole[len(s):], residue)
		turned := string(binary.LittleEndian.AppendUint32([]byte(s), Sum(s)^1))
		if Sum(turned) == residue {
			t.Errorf("%.40q, with another number behind it, has the sum of a text with its sum", s)
		}
	}
}

// against tells three texts of one length, put against one another byte by byte.
func against(s, t, u string) string {
	b := make([]byte, len(s))
	for i := range b {
		b[i] = s[i] ^ t[i] ^ u[i]
	}
	return string(b)
}

// P3.3: of three texts of one length, put against one another, the sum is their sums put against one another.
func TestThreeTextsOfOneLength(t *testing.T) {
	for _, n := range []int{0, 1, 2, 3, 4, 5, 8, 33, 122, 128, 1000} {
		zeros, ones := strings.Repeat("\x00", n), strings.Repeat("\xff", n)
		l := []string{zeros, ones, mixedText(n, 1), mixedText(n, 2), mixedText(n, 9), strings.Repeat("ab", n)[:n]}
		for _, a := range l {
			for _, b := range l {
				for _, c := range l {
					wantSum(t, against(a, b, c), Sum(a)^Sum(b)^Sum(c))
				}
			}
		}
	}
}

// turned tells s, with pattern put against the bits from the place at on, each byte's lowest bit first.
// What would stand behind the last bit is left out; it tells whether something was put at all.
func turned(s string, at int, pattern uint32) (string, bool) {
	b, some := []byte(s), false
	for k := range 32 {
		place := at + k
		if pattern>>k&1 == 1 && place < 8*len(b) {
			b[place/8] ^= 1 << (place % 8)
			some = true
		}
	}
	return string(b), some
}

// P3.3: texts that differ only within 32 bits side by side have unlike sums, wherever these bits begin.
func TestTextsThatDifferWithin32Bits(t *testing.T) {
	patterns := registers()
	// The first 32 of the 33 bits that would be unseen, and the rule's own bits the other way round.
	patterns = append(patterns, 0xdb710641, 0x04c11db7)
	for _, s := range []string{"a", "ab", "abc", "abcd", "abcde", mixedText(40, 1), strings.Repeat("\x00", 40), strings.Repeat("\xff", 128)} {
		for at := range 8 * len(s) {
			for _, pattern := range patterns {
				other, some := turned(s, at, pattern)
				if like := Sum(other) == Sum(s); like == some {
					t.Errorf("%.40q, and with %08x from the bit %d on: like sums are %v", s, pattern, at, like)
				}
			}
		}
	}
}

// P3.3: all texts of two bytes have unlike sums, and so have all that differ in two bytes side by side.
func TestUnlikeBytesHaveUnlikeSums(t *testing.T) {
	for _, around := range [][2]string{{"", ""}, {"", "carousel"}, {"carousel", ""}, {"car", "ousel"}} {
		seen := make(map[uint32]string)
		for n := range 1 << 16 {
			s := around[0] + string([]byte{byte(n), byte(n >> 8)}) + around[1]
			if other, ok := seen[Sum(s)]; ok {
				t.Fatalf("%q and %q have one sum", s, other)
			}
			seen[Sum(s)] = s
		}
	}
}

// P3.4: the sums of two texts are joined to that of both, one behind the other.
func TestJoinedIsSumOfBoth(t *testing.T) {
	l := texts()
	for i, a := range l {
		for k, b := range l {
			if i%7 != 0 && k%7 != 0 {
				continue
			}
			wantJoined(t, Sum(a), Sum(b), len(b), crc32.Update(crc32.ChecksumIEEE([]byte(a)), crc32.IEEETable, []byte(b)))
		}
	}
}

// P3.4: a text, cut wherever it may be.
func TestJoinedWhereverItIsCut(t *testing.T) {
	for _, s := range []string{"", "1", "123456789", mixedText(500, 4), strings.Repeat("\x00", 200)} {
		for k := range len(s) + 1 {
			wantJoined(t, Sum(s[:k]), Sum(s[k:]), len(s)-k, Sum(s))
		}
	}
}

// P3.4: a long text behind a long one.
func TestLongTextsAreJoined(t *testing.T) {
	const many = 1 << 20
	s := mixedText(many, 6)
	for _, k := range []int{1, 999, many/2 - 1, many / 2, many - 1} {
		wantJoined(t, Sum(s[:k]), Sum(s[k:]), many-k, Sum(s))
	}
}

// P3.4: so many zero bytes, and then so many more, are all of them at once.
func TestZeroBytesAreAdded(t *testing.T) {
	counts := []int{0, 1, 2, 3, 7, 8, 255, 1 << 31, 1<<32 - 1, 1 << 32, 1 << 61, 1<<62 - 1, math.MaxInt / 2}
	for _, a := range registers() {
		for _, n := range counts {
			for _, m := range counts {
				wantJoined(t, Join(a, 0, n), 0, m, Join(a, 0, n+m))
			}
			wantJoined(t, Join(a, 0, n), 0, math.MaxInt-n, Join(a, 0, math.MaxInt))
		}
	}
}

// P3.4: three texts are joined alike, whichever two of them first.
func TestJoinedInEachOrder(t *testing.T) {
	for _, a := range registers() {
		b, c := a*3+1, ^a*5
		for _, n := range []int{0, 1, 6, 1000, 1 << 40} {
			for _, m := range []int{0, 1, 5, 999, 1 << 50} {
				wantJoined(t, Join(a, b, n), c, m, Join(a, Join(b, c, m), n+m))
			}
		}
	}
}

// FuzzJoin: whatever texts, both calls tell the sum of one behind the other.
func FuzzJoin(f *testing.F) {
	f.Add("1234", "56789", 5)
	f.Add("", "", 0)
	f.Add("\x00", "\xff\xff\xff\xff", -1)
	f.Add("carousel", "", math.MaxInt)
	f.Add("", mixedText(128, 1), math.MinInt)
	f.Fuzz(func(t *testing.T, a, b string, n int) {
		want := crc32.ChecksumIEEE([]byte(a + b))
		wantSum(t, a+b, want)
		wantMore(t, Sum(a), b, want)
		wantJoined(t, Sum(a), Sum(b), len(b), want)
		if n < 0 {
			wantJoined(t, Sum(a), Sum(b), n, 0)
			return
		}
		wantJoined(t, Join(Sum(a), 0, n/2), Sum(b), n-n/2, Join(Sum(a), Sum(b), n))
	})
}
