package ints

import (
	"encoding/binary"
	"math"
	"strings"
	"testing"
)

// samples are numbers about each edge at which a number gets one byte or one bit more.
func samples() []int {
	l := []int{0, 1, 2, 3, 63, 64, 65, 127, 128, 129, 255, 256, 300, math.MaxInt - 1, math.MaxInt}
	for k := range 63 {
		p := 1 << k
		l = append(l, p-1, p, p+1)
	}
	return l
}

// signed are the samples, those with the other sign, and the least int.
func signed() []int {
	l := []int{math.MinInt, math.MinInt + 1}
	for _, n := range samples() {
		l = append(l, n, -n, -n-1)
	}
	return l
}

// noNumbers are texts at whose beginning no number from 0 to 2^64 - 1 stands.
func noNumbers() map[string]string {
	return map[string]string{
		"nothing":                         "",
		"cut off behind one byte":         "\x80",
		"cut off behind two bytes":        "\xff\xff",
		"cut off behind nine bytes":       strings.Repeat("\xff", 9),
		"cut off behind ten bytes":        strings.Repeat("\xff", 10),
		"0 in two bytes":                  "\x80\x00",
		"0 in three bytes":                "\x80\x80\x00",
		"1 in two bytes":                  "\x81\x00",
		"127 in two bytes":                "\xff\x00",
		"300 in three bytes":              "\xac\x82\x00",
		"0 in ten bytes":                  strings.Repeat("\x80", 9) + "\x00",
		"2^63 - 1 in ten bytes":           strings.Repeat("\xff", 9) + "\x00",
		"2^64":                            strings.Repeat("\x80", 9) + "\x02",
		"2^64 + 2^63 - 1":                 strings.Repeat("\xff", 9) + "\x02",
		"2^64 + 2^63 + 2^63 - 1":          strings.Repeat("\xff", 9) + "\x03",
		"ten bytes, the last one 127":     strings.Repeat("\xff", 9) + "\x7f",
		"eleven bytes, the last one 0":    strings.Repeat("\x80", 10) + "\x00",
		"eleven bytes, the last one 1":    strings.Repeat("\x80", 10) + "\x01",
		"eleven bytes behind 2^64 - 1":    strings.Repeat("\xff", 9) + "\x81\x00",
		"many bytes without a last one":   strings.Repeat("\xff", 1<<20),
		"many bytes, and then a last one": strings.Repeat("\x80", 1<<20) + "\x01",
	}
}

func wantGot(t *testing.T, s string, at, wantN, wantNext int) {
	t.Helper()
	if n, next, ok := Get(s, at); n != wantN || next != wantNext || !ok {
		t.Errorf("Get(%q, %d): %d, %d, %v; not %d, %d, true", s, at, n, next, ok, wantN, wantNext)
	}
}

func wantGotInt(t *testing.T, s string, at, wantN, wantNext int) {
	t.Helper()
	if n, next, ok := GetInt(s, at); n != wantN || next != wantNext || !ok {
		t.Errorf("GetInt(%q, %d): %d, %d, %v; not %d, %d, true", s, at, n, next, ok, wantN, wantNext)
	}
}

func wantNone(t *testing.T, name, s string, at int) {
	t.Helper()
	if n, next, ok := Get(s, at); n != 0 || next != 0 || ok {
		t.Errorf("%s: Get at %d: %d, %d, %v; not 0, 0, false", name, at, n, next, ok)
	}
}

func wantNoInt(t *testing.T, name, s string, at int) {
	t.Helper()
	if n, next, ok := GetInt(s, at); n != 0 || next != 0 || ok {
		t.Errorf("%s: GetInt at %d: %d, %d, %v; not 0, 0, false", name, at, n, next, ok)
	}
}

// P1.1: what the document says of Put, number by number.
func TestPutTellsBytes(t *testing.T) {
	for n, want := range map[int]string{
		0:           "\x00",
		1:           "\x01",
		127:         "\x7f",
		128:         "\x80\x01",
		300:         "\xac\x02",
		16383:       "\xff\x7f",
		16384:       "\x80\x80\x01",
		1<<56 - 1:   "\xff\xff\xff\xff\xff\xff\xff\x7f",
		1 << 56:     "\x80\x80\x80\x80\x80\x80\x80\x80\x01",
		math.MaxInt: "\xff\xff\xff\xff\xff\xff\xff\xff\x7f",
	} {
		if s := Put(n); s != want {
			t.Errorf("Put(%d): %q, not %q", n, s, want)
		}
	}
}

// P1.1: a number below 0 has no bytes.
func TestPutTellsNothingBelowZero(t *testing.T) {
	for _, n := range []int{-1, -2, -127, -128, -300, math.MinInt + 1, math.MinInt} {
		if s := Put(n); s != "" {
			t.Errorf("Put(%d): %q, not nothing", n, s)
		}
	}
}

// P1.1: what the document says of PutInt, int by int.
func TestPutIntTellsBytes(t *testing.T) {
	for n, want := range map[int]string{
		0:           "\x00",
		-1:          "\x01",
		1:           "\x02",
		-2:          "\x03",
		63:          "\x7e",
		-64:         "\x7f",
		64:          "\x80\x01",
		-65:         "\x81\x01",
		math.MaxInt: "\xfe\xff\xff\xff\xff\xff\xff\xff\xff\x01",
		math.MinInt: "\xff\xff\xff\xff\xff\xff\xff\xff\xff\x01",
	} {
		if s := PutInt(n); s != want {
			t.Errorf("PutInt(%d): %q, not %q", n, s, want)
		}
	}
}

// P1.1: the library's variable-length numbers are of the same form.
func TestPutAgreesWithTheLibrary(t *testing.T) {
	for _, n := range samples() {
		if s, want := Put(n), string(binary.AppendUvarint(nil, uint64(n))); s != want {
			t.Errorf("Put(%d): %q, not %q", n, s, want)
		}
	}
	for _, n := range signed() {
		if s, want := PutInt(n), string(binary.AppendVarint(nil, int64(n))); s != want {
			t.Errorf("PutInt(%d): %q, not %q", n, s, want)
		}
	}
}

// P1.2: the number, and the place behind it, whatever stands ahead of it and behind it.
func TestGetTellsNumberAndPlace(t *testing.T) {
	wantGot(t, "\x00", 0, 0, 1)
	wantGot(t, "\x7f", 0, 127, 1)
	wantGot(t, "\x80\x01", 0, 128, 2)
	wantGot(t, "\x80\x01", 1, 1, 2)
	wantGot(t, "\xac\x02", 0, 300, 2)
	wantGot(t, "\xac\x02\x80", 0, 300, 2)
	wantGot(t, "\xff\xff\xac\x02\x00", 2, 300, 4)
	wantGot(t, "\x80\x00", 1, 0, 2)
	wantGot(t, strings.Repeat("\xff", 8)+"\x7f", 0, math.MaxInt, 9)
}

// P1.2: the int, and the place behind it, whatever stands ahead of it and behind it.
func TestGetIntTellsIntAndPlace(t *testing.T) {
	wantGotInt(t, "\x00", 0, 0, 1)
	wantGotInt(t, "\x01", 0, -1, 1)
	wantGotInt(t, "\x02", 0, 1, 1)
	wantGotInt(t, "\x7f", 0, -64, 1)
	wantGotInt(t, "\x80\x01", 0, 64, 2)
	wantGotInt(t, "\x80\x01", 1, -1, 2)
	wantGotInt(t, "\xff\xff\xac\x02\x00", 2, 150, 4)
	wantGotInt(t, strings.Repeat("\xff", 8)+"\x7f", 0, -1<<62, 9)
	wantGotInt(t, strings.Repeat("\x80", 9)+"\x01", 0, 1<<62, 10)
	wantGotInt(t, "\xfe"+strings.Repeat("\xff", 8)+"\x01", 0, math.MaxInt, 10)
	wantGotInt(t, strings.Repeat("\xff", 9)+"\x01", 0, math.MinInt, 10)
}

// P1.2: bytes that are no number's.
func TestNoNumberIsGot(t *testing.T) {
	for name, s := range noNumbers() {
		wantNone(t, name, s, 0)
		wantNoInt(t, name, s, 0)
		wantNone(t, name+", behind a number", "\x05"+s, 1)
		wantNoInt(t, name+", behind a number", "\x05"+s, 1)
	}
}

// P1.2: the numbers from 2^63 to 2^64 - 1 are those of ints alone.
func TestGetStopsAtGreatest(t *testing.T) {
	for _, s := range []string{
		strings.Repeat("\x80", 9) + "\x01",
		"\xfe" + strings.Repeat("\xff", 8) + "\x01",
		strings.Repeat("\xff", 9) + "\x01",
	} {
		wantNone(t, "2^63 at least", s, 0)
		if _, _, ok := GetInt(s, 0); !ok {
			t.Errorf("GetInt(%q, 0): none", s)
		}
	}
}

// P1.2: nothing stands at what is no place of the text.
func TestNothingStandsOutside(t *testing.T) {
	for _, s := range []string{"", "\x00", "\x01", "\x01\x02\x03", "\xac\x02"} {
		for _, at := range []int{-1, -2, math.MinInt, math.MinInt + 1, len(s), len(s) + 1, math.MaxInt - 1, math.MaxInt} {
			wantNone(t, "outside", s, at)
			wantNoInt(t, "outside", s, at)
		}
	}
}

// P1.3: what is put is got.
func TestPutIsGot(t *testing.T) {
	for _, n := range samples() {
		s := Put(n)
		wantGot(t, s, 0, n, len(s))
		wantGot(t, "\xff"+s+"\xff", 1, n, 1+len(s))
	}
	for _, n := range signed() {
		s := PutInt(n)
		wantGotInt(t, s, 0, n, len(s))
		wantGotInt(t, "\xff"+s+"\xff", 1, n, 1+len(s))
	}
}

// putAgain fails if something is got from s at its beginning that was not put so.
func putAgain(t *testing.T, s string) {
	t.Helper()
	if n, next, ok := Get(s, 0); ok && (n < 0 || Put(n) != s[:next]) {
		t.Errorf("Get(%q, 0): %d, %d, true; but it is put as %q", s, n, next, Put(n))
	}
	if n, next, ok := GetInt(s, 0); ok && PutInt(n) != s[:next] {
		t.Errorf("GetInt(%q, 0): %d, %d, true; but it is put as %q", s, n, next, PutInt(n))
	}
}

// P1.3: what is got was put: all texts of at most two bytes, and all that end at the edges of nine and ten bytes.
func TestGotWasPut(t *testing.T) {
	for a := range 256 {
		putAgain(t, string([]byte{byte(a)}))
		for b := range 256 {
			putAgain(t, string([]byte{byte(a), byte(b)}))
			for _, full := range []string{"\x80", "\xff"} {
				putAgain(t, strings.Repeat(full, 7)+string([]byte{byte(a), byte(b)}))
				putAgain(t, strings.Repeat(full, 8)+string([]byte{byte(a), byte(b)}))
				putAgain(t, strings.Repeat(full, 9)+string([]byte{byte(a), byte(b)}))
			}
		}
	}
}

// P1.3: numbers are got in the order in which they were put, and nothing is left behind them.
func TestNumbersFollowEachOther(t *testing.T) {
	var s strings.Builder
	for _, n := range samples() {
		s.WriteString(Put(n))
	}
	at := 0
	for _, want := range samples() {
		n, next, ok := Get(s.String(), at)
		if n != want || !ok {
			t.Fatalf("at %d: %d, %v; not %d", at, n, ok, want)
		}
		at = next
	}
	if at != s.Len() {
		t.Errorf("%d bytes, %d of them got", s.Len(), at)
	}
}

// P1.3: ints likewise.
func TestIntsFollowEachOther(t *testing.T) {
	var s strings.Builder
	for _, n := range signed() {
		s.WriteString(PutInt(n))
	}
	at := 0
	for _, want := range signed() {
		n, next, ok := GetInt(s.String(), at)
		if n != want || !ok {
			t.Fatalf("at %d: %d, %v; not %d", at, n, ok, want)
		}
		at = next
	}
	if at != s.Len() {
		t.Errorf("%d bytes, %d of them got", s.Len(), at)
	}
}

// P1.3: one that is cut off is none.
func TestCutOffIsNone(t *testing.T) {
	for _, n := range signed() {
		s := PutInt(n)
		for k := range len(s) {
			wantNone(t, "cut off", s[:k], 0)
			wantNoInt(t, "cut off", s[:k], 0)
		}
		s = Put(n)
		for k := range len(s) {
			wantNone(t, "cut off", s[:k], 0)
			wantNoInt(t, "cut off", s[:k], 0)
		}
	}
}

// FuzzGet: at whatever text and place, what is got was put, and what is not got is told as zeros.
func FuzzGet(f *testing.F) {
	for _, s := range noNumbers() {
		f.Add(s[:min(len(s), 20)], 0)
	}
	for _, n := range samples() {
		f.Add("\xff"+Put(n), 1)
		f.Add(PutInt(n), n)
	}
	f.Fuzz(func(t *testing.T, s string, at int) {
		if n, next, ok := Get(s, at); ok && Put(n) != s[at:next] || !ok && (n != 0 || next != 0) {
			t.Errorf("Get(%q, %d): %d, %d, %v", s, at, n, next, ok)
		}
		if n, next, ok := GetInt(s, at); ok && PutInt(n) != s[at:next] || !ok && (n != 0 || next != 0) {
			t.Errorf("GetInt(%q, %d): %d, %d, %v", s, at, n, next, ok)
		}
	})
}
