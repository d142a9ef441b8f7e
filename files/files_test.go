package files

import (
	"bytes"
	"crypto/sha3"
	"fmt"
	"math"
	"regexp"
	"slices"
	"sort"
	"strings"
	"testing"
	"unsafe"

	"carousel/api"
)

// mixed is n bytes that have no order, another text for each seed.
func mixed(n, seed int) string {
	return string(sha3.SumSHAKE128([]byte(fmt.Sprint(seed)), n))
}

// pg is a page without an order, another one for each seed.
func pg(seed int) string {
	return mixed(128, seed)
}

// pgs are n pages, each another one, from the seed from on.
func pgs(n, from int) []string {
	l := make([]string, n)
	for i := range l {
		l[i] = pg(from + i)
	}
	return l
}

func newFS(t *testing.T, room int) *FS {
	t.Helper()
	f, e := New(room)
	if f == nil || e != api.OK {
		t.Fatalf("New(%d): %v, %v", room, f, e)
	}
	return f
}

// filled tells a file system with room for so many pages, in which the files of these names have so many pages.
func filled(t *testing.T, room int, want map[string][]string) *FS {
	t.Helper()
	f := newFS(t, room)
	for name, pages := range want {
		wantOK(t, "Write of "+name, f.Write(name, pages))
	}
	wantFiles(t, f, want)
	return f
}

func wantErr(t *testing.T, what string, e, want api.Errno) {
	t.Helper()
	if e != want {
		t.Errorf("%s: %v, not %v", what, e, want)
	}
}

func wantOK(t *testing.T, what string, e api.Errno) {
	t.Helper()
	wantErr(t, what, e, api.OK)
}

func wantRead(t *testing.T, f *FS, name string, i int, want string) {
	t.Helper()
	if s, e := f.Read(name, i); s != want || e != api.OK {
		t.Errorf("Read(%q, %d): %.20q, %v; not %.20q, OK", name, i, s, e, want)
	}
}

func wantNotRead(t *testing.T, f *FS, name string, i int, want api.Errno) {
	t.Helper()
	if s, e := f.Read(name, i); s != "" || e != want {
		t.Errorf("Read(%q, %d): %.20q, %v; not nothing, %v", name, i, s, e, want)
	}
}

// wantFiles fails if there are other files than these, or other pages; it reads each page of them.
func wantFiles(t *testing.T, f *FS, want map[string][]string) {
	t.Helper()
	var names []string
	used := 0
	for name, pages := range want {
		names = append(names, name)
		used += len(pages)
	}
	sort.Strings(names)
	if l := f.Names(); !slices.Equal(l, names) {
		t.Errorf("Names: %q, not %q", l, names)
	}
	if n := f.Used(); n != used {
		t.Errorf("Used: %d, not %d", n, used)
	}
	for name, pages := range want {
		if n := f.Pages(name); n != len(pages) {
			t.Errorf("Pages(%q): %d, not %d", name, n, len(pages))
		}
		for i, page := range pages {
			wantRead(t, f, name, i, page)
		}
		wantNotRead(t, f, name, -1, api.ErrNone)
		wantNotRead(t, f, name, len(pages), api.ErrNone)
	}
}

// wantGone fails if there is such a file.
func wantGone(t *testing.T, f *FS, name string) {
	t.Helper()
	if n := f.Pages(name); n != 0 {
		t.Errorf("Pages(%q): %d", name, n)
	}
	if l := f.Names(); slices.Contains(l, name) {
		t.Errorf("Names: %q, with %q", l, name)
	}
	wantNotRead(t, f, name, 0, api.ErrNone)
	wantErr(t, fmt.Sprintf("Flip of %.20q", name), f.Flip(name, 0, 0, 1), api.ErrNone)
	wantErr(t, fmt.Sprintf("Remove of %.20q", name), f.Remove(name), api.ErrNone)
}

// The document's examples.
func TestExamples(t *testing.T) {
	f := newFS(t, 3)
	p, q := strings.Repeat("p", 128), strings.Repeat("q", 128)
	wantOK(t, "Write of a", f.Write("a", []string{p, q}))
	wantOK(t, "Put of a, 2", f.Put("a", 2, p))
	wantErr(t, "Put of b, 0", f.Put("b", 0, p), api.ErrRoom)
	wantErr(t, "Put of a, 5", f.Put("a", 5, p), api.ErrArg)
	if n := f.Used(); n != 3 {
		t.Errorf("Used: %d", n)
	}
	wantOK(t, "Fail of 1", f.Fail(1))
	wantRead(t, f, "a", 0, p)
	wantNotRead(t, f, "a", 9, api.ErrNone)
	wantNotRead(t, f, "a", 1, api.ErrRead)
	wantRead(t, f, "a", 1, q)
}

// P6.1: room for so many pages: these are written, one more is not.
func TestNewHasRoom(t *testing.T) {
	for _, room := range []int{1, 2, 3, 100, 4095, 4096} {
		f := newFS(t, room)
		wantFiles(t, f, nil)
		wantGone(t, f, "a")
		wantErr(t, "Write of one too many", f.Write("a", pgs(room+1, 0)), api.ErrRoom)
		wantFiles(t, f, nil)
		all := pgs(room, 0)
		wantOK(t, "Write of all", f.Write("a", all))
		wantFiles(t, f, map[string][]string{"a": all})
		wantErr(t, "Put of one more", f.Put("a", room, pg(0)), api.ErrRoom)
		wantErr(t, "Put of another file", f.Put("b", 0, pg(0)), api.ErrRoom)
		wantErr(t, "Write of another file", f.Write("b", pgs(1, 0)), api.ErrRoom)
		wantFiles(t, f, map[string][]string{"a": all})
	}
}

// P6.1: the same room, put page by page: into one file, and into one file a page.
func TestNewHasRoomForPages(t *testing.T) {
	for _, room := range []int{1, 2, 3, 100, 4096} {
		one, many := newFS(t, room), newFS(t, room)
		wantOne, wantMany := map[string][]string{}, map[string][]string{}
		for i := range room {
			wantOK(t, "Put", one.Put("a", i, pg(i)))
			wantOne["a"] = append(wantOne["a"], pg(i))
			name := fmt.Sprint("f", i)
			wantOK(t, "Put", many.Put(name, 0, pg(i)))
			wantMany[name] = pgs(1, i)
		}
		wantErr(t, "Put of one more", one.Put("a", room, pg(0)), api.ErrRoom)
		wantErr(t, "Put of one more", many.Put("f0", 1, pg(0)), api.ErrRoom)
		wantErr(t, "Put of one file more", many.Put("g", 0, pg(0)), api.ErrRoom)
		wantFiles(t, one, wantOne)
		wantFiles(t, many, wantMany)
	}
}

// P6.1: room that may not be.
func TestNewRefusesRoom(t *testing.T) {
	for _, room := range []int{0, -1, -4096, math.MinInt, 4097, 4098, 8192, 1 << 32, 1<<32 + 1, math.MaxInt} {
		if f, e := New(room); f != nil || e != api.ErrArg {
			t.Errorf("New(%d): %v, %v", room, f, e)
		}
	}
}

// P6.1, P6.6: file systems have nothing to do with each other.
func TestFileSystemsAreApart(t *testing.T) {
	f := filled(t, 2, map[string][]string{"a": pgs(2, 0)})
	g := newFS(t, 2)
	wantFiles(t, g, nil)
	wantOK(t, "Write", g.Write("a", pgs(1, 5)))
	wantOK(t, "Flip", g.Flip("a", 0, 0, 1))
	wantOK(t, "Flip", g.Flip("a", 0, 0, 1))
	wantOK(t, "Fail", g.Fail(0))
	wantFiles(t, f, map[string][]string{"a": pgs(2, 0)})
	wantNotRead(t, g, "a", 0, api.ErrRead)
	wantOK(t, "Remove", g.Remove("a"))
	wantFiles(t, f, map[string][]string{"a": pgs(2, 0)})
	wantFiles(t, g, nil)
}

// someNames are texts that are names.
func someNames() []string {
	return []string{"a", "!", "~", "!!!!!!!!", "~~~~~~~~", "abcdefgh", "A", "0", "a.b", "a/b", `\`, `"`, "..", "-1"}
}

// noNames are texts that are none.
func noNames() []string {
	return []string{"", " ", "a ", " a", "a b", "\x7f", "a\x7f", "\x80", "\xff", "a\xffb", "\x00", "a\x00", "\x1f", "\n", "a\n", "\t", "é", "aé", "☃", "\U0001f600",
		"abcdefghi", "!!!!!!!!!", "~~~~~~~~~", "         ", strings.Repeat("a", 16), strings.Repeat("a", 256), strings.Repeat("a", 264), strings.Repeat("a", 1<<16+1), "abcdefgh ", "abcdefgh\x00", "abcdefg\x00", "abcdefg\x7f", "abcdefg "}
}

// P6.1: what a name is, held against the library: each byte at each place of a name of each size.
func TestNames(t *testing.T) {
	is := regexp.MustCompile(`^[!-~]{1,8}$`)
	for size := range 12 {
		texts := []string{strings.Repeat("x", size)}
		for at := range size {
			for b := range 256 {
				text := []byte(texts[0])
				text[at] = byte(b)
				texts = append(texts, string(text))
			}
		}
		for _, text := range texts {
			if Name(text) != is.MatchString(text) {
				t.Errorf("Name(%q): %v", text, Name(text))
			}
		}
	}
	for b := range 256 {
		if is := b >= 33 && b <= 126; Name(string([]byte{byte(b)})) != is {
			t.Errorf("the byte %d: %v", b, !is)
		}
	}
	for _, name := range someNames() {
		if !Name(name) {
			t.Errorf("%q is none", name)
		}
	}
	for _, name := range noNames() {
		if Name(name) {
			t.Errorf("%q is one", name)
		}
	}
}

// P6.1, P6.2: files are had by all names, and by nothing else.
func TestFilesHaveNames(t *testing.T) {
	for _, name := range someNames() {
		f := newFS(t, 2)
		wantOK(t, "Write", f.Write(name, pgs(1, 0)))
		wantOK(t, "Put", f.Put(name, 1, pg(1)))
		wantFiles(t, f, map[string][]string{name: pgs(2, 0)})
		wantOK(t, "Flip", f.Flip(name, 0, 0, 0))
		wantOK(t, "Remove", f.Remove(name))
		wantOK(t, "Put", f.Put(name, 0, pg(0)))
		wantFiles(t, f, map[string][]string{name: pgs(1, 0)})
	}
	f := filled(t, 2, map[string][]string{"a": pgs(1, 0)})
	for _, name := range noNames() {
		wantErr(t, "Write", f.Write(name, pgs(1, 0)), api.ErrArg)
		wantErr(t, "Write of nothing", f.Write(name, nil), api.ErrArg)
		wantErr(t, "Put", f.Put(name, 0, pg(0)), api.ErrArg)
		wantGone(t, f, name)
	}
	wantFiles(t, f, map[string][]string{"a": pgs(1, 0)})
}

// P6.2: a file has just the pages that are written, whatever it had.
func TestWriteMakesAllPages(t *testing.T) {
	for had := range 6 {
		for now := range 6 {
			f := filled(t, 20, map[string][]string{"b": pgs(3, 90)})
			wantOK(t, "Write", f.Write("a", pgs(had, 0)))
			wantOK(t, "Write", f.Write("a", pgs(now, 50)))
			want := map[string][]string{"b": pgs(3, 90)}
			if now > 0 {
				want["a"] = pgs(now, 50)
			} else {
				wantGone(t, f, "a")
			}
			wantFiles(t, f, want)
		}
	}
}

// P6.2: a page is any bytes, the same one any number of times.
func TestPagesAreAnyBytes(t *testing.T) {
	zeros, ones, high := strings.Repeat("\x00", 128), strings.Repeat("\xff", 128), strings.Repeat("é", 64)
	want := map[string][]string{"a": {zeros, ones, high, zeros, zeros, pg(1)}, "b": {zeros}, "c": {pg(1), pg(1)}}
	f := filled(t, 9, want)
	for i, page := range []string{ones, high, pg(1), zeros} {
		wantOK(t, "Put", f.Put("a", i, page))
		want["a"][i] = page
		wantFiles(t, f, want)
	}
}

// P6.2: a Write without pages: the file is gone, if it was there, and nothing else.
func TestWriteOfNothing(t *testing.T) {
	for _, none := range [][]string{nil, {}} {
		f := filled(t, 3, map[string][]string{"a": pgs(1, 0), "b": pgs(2, 5)})
		wantOK(t, "Write of none that is not there", f.Write("c", none))
		wantGone(t, f, "c")
		wantFiles(t, f, map[string][]string{"a": pgs(1, 0), "b": pgs(2, 5)})
		wantOK(t, "Write of none", f.Write("b", none))
		wantGone(t, f, "b")
		wantFiles(t, f, map[string][]string{"a": pgs(1, 0)})
		wantOK(t, "Write of none again", f.Write("b", none))
		wantOK(t, "Put behind it", f.Put("b", 0, pg(9)))
		wantFiles(t, f, map[string][]string{"a": pgs(1, 0), "b": pgs(1, 9)})
		wantErr(t, "Put of a page that it had", f.Put("b", 2, pg(9)), api.ErrArg)
	}
}

// P6.2: the pages that a file has are let go, when it is written anew: their room is there for the new ones.
func TestWriteAnewHasTheRoomOfBefore(t *testing.T) {
	f := filled(t, 5, map[string][]string{"a": pgs(3, 0), "b": pgs(2, 10)})
	wantOK(t, "as many", f.Write("a", pgs(3, 20)))
	wantErr(t, "one more", f.Write("a", pgs(4, 30)), api.ErrRoom)
	wantErr(t, "all", f.Write("a", pgs(5, 30)), api.ErrRoom)
	wantFiles(t, f, map[string][]string{"a": pgs(3, 20), "b": pgs(2, 10)})
	wantOK(t, "one less", f.Write("b", pgs(1, 40)))
	wantErr(t, "two more", f.Write("a", pgs(5, 30)), api.ErrRoom)
	wantOK(t, "one more, for which there is room now", f.Write("a", pgs(4, 50)))
	wantFiles(t, f, map[string][]string{"a": pgs(4, 50), "b": pgs(1, 40)})
	wantErr(t, "a third one", f.Write("c", pgs(1, 60)), api.ErrRoom)
	wantOK(t, "none", f.Write("b", nil))
	wantOK(t, "all of the room", f.Write("a", pgs(5, 70)))
	wantErr(t, "more than the room", f.Write("a", pgs(6, 70)), api.ErrRoom)
	wantFiles(t, f, map[string][]string{"a": pgs(5, 70)})
	wantOK(t, "few", f.Write("a", pgs(1, 80)))
	wantOK(t, "the others", f.Write("b", pgs(4, 90)))
	wantFiles(t, f, map[string][]string{"a": pgs(1, 80), "b": pgs(4, 90)})
}

// P6.2, for all sizes of two files: a Write is done just if there is room for all.
func TestWriteAsksForRoom(t *testing.T) {
	const room = 4
	for other := range room + 1 {
		for had := range room - other + 1 {
			for now := range room + 3 {
				f := newFS(t, room)
				wantOK(t, "Write", f.Write("b", pgs(other, 0)))
				wantOK(t, "Write", f.Write("a", pgs(had, 10)))
				name := fmt.Sprintf("%d pages in place of %d, beside %d", now, had, other)
				if other+now <= room {
					wantOK(t, name, f.Write("a", pgs(now, 20)))
				} else {
					wantErr(t, name, f.Write("a", pgs(now, 20)), api.ErrRoom)
				}
				if n := f.Used(); n != other+now && other+now <= room || n != other+had && other+now > room {
					t.Errorf("%s: %d used", name, n)
				}
			}
		}
	}
}

// P6.2: a page is put at each place that the file has, and just behind the last one.
func TestPut(t *testing.T) {
	for many := range 6 {
		for i := range many + 1 {
			f := filled(t, 20, map[string][]string{"b": pgs(3, 90)})
			wantOK(t, "Write", f.Write("a", pgs(many, 0)))
			wantOK(t, fmt.Sprintf("Put of %d with %d", i, many), f.Put("a", i, pg(50)))
			l := append(pgs(many, 0), "")[:max(many, i+1)]
			l[i] = pg(50)
			wantFiles(t, f, map[string][]string{"a": l, "b": pgs(3, 90)})
		}
		f := filled(t, 20, map[string][]string{"b": pgs(3, 90)})
		wantOK(t, "Write", f.Write("a", pgs(many, 0)))
		for _, i := range []int{-1, -2, math.MinInt, many + 1, many + 2, math.MaxInt, 1 << 32, -1 << 32} {
			wantErr(t, fmt.Sprintf("Put of %d with %d", i, many), f.Put("a", i, pg(50)), api.ErrArg)
		}
		wantOK(t, "Put", f.Put("a", many, pg(many)))
		wantFiles(t, f, map[string][]string{"a": pgs(many+1, 0), "b": pgs(3, 90)})
	}
}

// P6.2: a page that is there is put anew where all room is in use.
func TestPutWithoutRoom(t *testing.T) {
	f := filled(t, 4, map[string][]string{"a": pgs(3, 0), "b": pgs(1, 10)})
	for i := range 3 {
		wantOK(t, "Put", f.Put("a", i, pg(20+i)))
		wantErr(t, "Put behind the last one", f.Put("a", 3, pg(5)), api.ErrRoom)
		wantErr(t, "Put behind the last one", f.Put("b", 1, pg(5)), api.ErrRoom)
		wantErr(t, "Put of a file more", f.Put("c", 0, pg(5)), api.ErrRoom)
	}
	wantOK(t, "Put", f.Put("b", 0, pg(30)))
	wantFiles(t, f, map[string][]string{"a": pgs(3, 20), "b": pgs(1, 30)})
	wantOK(t, "Remove", f.Remove("b"))
	wantOK(t, "Put", f.Put("c", 0, pg(40)))
	wantErr(t, "Put", f.Put("c", 1, pg(40)), api.ErrRoom)
	wantFiles(t, f, map[string][]string{"a": pgs(3, 20), "c": pgs(1, 40)})
}

// P6.2: texts that are no page, because of their size alone, wherever among others one stands.
func TestPagesOfOtherSizes(t *testing.T) {
	want := map[string][]string{"a": pgs(2, 0)}
	f := filled(t, 10, want)
	for _, size := range []int{0, 1, 64, 122, 124, 126, 127, 129, 130, 255, 256, 384, 1 << 16} {
		bad := mixed(size, 3)
		for _, name := range []string{"a", "b"} {
			for many := 1; many < 5; many++ {
				for at := range many {
					l := pgs(many, 5)
					l[at] = bad
					wantErr(t, fmt.Sprintf("%d bytes at %d", size, at), f.Write(name, l), api.ErrArg)
				}
			}
			wantErr(t, "Put", f.Put(name, 0, bad), api.ErrArg)
			wantErr(t, "Put", f.Put(name, f.Pages(name), bad), api.ErrArg)
		}
		wantFiles(t, f, want)
	}
}

// P6.3: what is there is read, anything else is ErrNone.
func TestRead(t *testing.T) {
	f := filled(t, 9, map[string][]string{"a": pgs(3, 0), "b": pgs(1, 10), "B": pgs(2, 20)})
	for _, i := range []int{-1, -2, math.MinInt, 3, 4, math.MaxInt, 1 << 32, 1<<32 + 1} {
		wantNotRead(t, f, "a", i, api.ErrNone)
	}
	wantNotRead(t, f, "b", 1, api.ErrNone)
	wantNotRead(t, f, "B", 2, api.ErrNone)
	for _, name := range append(noNames(), "A", "c", "aa", "ab") {
		wantNotRead(t, f, name, 0, api.ErrNone)
		wantNotRead(t, f, name, -1, api.ErrNone)
	}
	wantFiles(t, f, map[string][]string{"a": pgs(3, 0), "b": pgs(1, 10), "B": pgs(2, 20)})
}

// wantOneFails fails if not just the read behind n ones fails, of those of pages that are there; between them, pages are asked for that are not.
func wantOneFails(t *testing.T, f *FS, n int) {
	t.Helper()
	pages := []string{pg(0), pg(1), pg(2)}
	for k := range n + 8 {
		wantNotRead(t, f, "a", 3, api.ErrNone)
		wantNotRead(t, f, "a", -1, api.ErrNone)
		wantNotRead(t, f, "no", 0, api.ErrNone)
		wantNotRead(t, f, "", 0, api.ErrNone)
		if k == n {
			wantNotRead(t, f, "a", k%3, api.ErrRead)
		} else {
			wantRead(t, f, "a", k%3, pages[k%3])
		}
	}
}

// P6.3: so many reads are done, the next one fails, and those behind it do not.
func TestFail(t *testing.T) {
	f := filled(t, 9, map[string][]string{"a": pgs(3, 0), "b": pgs(2, 10)})
	for n := range 20 {
		wantOK(t, "Fail", f.Fail(n))
		wantOneFails(t, f, n)
	}
	wantFiles(t, f, map[string][]string{"a": pgs(3, 0), "b": pgs(2, 10)})
}

// P6.3: reads of all files count, and one that failed fails no more.
func TestFailCountsReadsOfAllFiles(t *testing.T) {
	f := filled(t, 9, map[string][]string{"a": pgs(3, 0), "b": pgs(2, 10)})
	wantOK(t, "Fail", f.Fail(3))
	wantRead(t, f, "a", 0, pg(0))
	wantRead(t, f, "b", 0, pg(10))
	wantRead(t, f, "a", 0, pg(0))
	wantNotRead(t, f, "b", 1, api.ErrRead)
	wantRead(t, f, "b", 1, pg(11))
	wantFiles(t, f, map[string][]string{"a": pgs(3, 0), "b": pgs(2, 10)})
}

// P6.3: a Fail of before counts no more, whether its read has been done or not.
func TestFailAnew(t *testing.T) {
	for first := range 5 {
		for reads := range first + 2 {
			for second := range 5 {
				f := filled(t, 3, map[string][]string{"a": pgs(3, 0)})
				wantOK(t, "Fail", f.Fail(first))
				for k := range reads {
					if k == first {
						wantNotRead(t, f, "a", 0, api.ErrRead)
					} else {
						wantRead(t, f, "a", 0, pg(0))
					}
				}
				wantOK(t, "Fail anew", f.Fail(second))
				wantOneFails(t, f, second)
			}
		}
	}
}

// P6.3: a Fail that may not be leaves the one of before.
func TestFailBelowZero(t *testing.T) {
	f := filled(t, 3, map[string][]string{"a": pgs(3, 0)})
	for _, n := range []int{-1, -2, math.MinInt} {
		wantErr(t, "Fail", f.Fail(n), api.ErrArg)
		wantFiles(t, f, map[string][]string{"a": pgs(3, 0)})
		wantOK(t, "Fail", f.Fail(2))
		wantErr(t, "Fail", f.Fail(n), api.ErrArg)
		wantOneFails(t, f, 2)
	}
}

// P6.3: a Fail behind more reads than are done.
func TestFailFarAhead(t *testing.T) {
	for _, n := range []int{1000, 1 << 31, math.MaxInt - 1, math.MaxInt} {
		f := filled(t, 3, map[string][]string{"a": pgs(3, 0)})
		wantOK(t, "Fail", f.Fail(n))
		for k := range 1000 {
			wantRead(t, f, "a", k%3, pg(k%3))
		}
		if n == 1000 {
			wantNotRead(t, f, "a", 0, api.ErrRead)
		}
		wantFiles(t, f, map[string][]string{"a": pgs(3, 0)})
	}
}

// P6.3: other calls are no reads, whether they tell an error or not; a Fail stays, if files go, and there is nothing to be read.
func TestOnlyReadsCount(t *testing.T) {
	f := filled(t, 4, map[string][]string{"a": pgs(3, 0)})
	wantOK(t, "Fail", f.Fail(1))
	wantOK(t, "Write", f.Write("b", pgs(1, 7)))
	wantErr(t, "Write", f.Write("b", pgs(2, 7)), api.ErrRoom)
	wantOK(t, "Put", f.Put("a", 0, pg(8)))
	wantErr(t, "Put", f.Put("c", 0, pg(8)), api.ErrRoom)
	wantErr(t, "Put", f.Put("c", 1, pg(8)), api.ErrArg)
	wantOK(t, "Flip", f.Flip("a", 0, 0, 1))
	wantErr(t, "Flip", f.Flip("a", 0, 128, 1), api.ErrArg)
	wantErr(t, "Flip", f.Flip("a", 3, 0, 1), api.ErrNone)
	wantOK(t, "Remove", f.Remove("b"))
	wantErr(t, "Remove", f.Remove("b"), api.ErrNone)
	f.Names()
	f.Pages("a")
	f.Used()
	wantOK(t, "Write of nothing", f.Write("a", nil))
	wantFiles(t, f, nil)
	wantNotRead(t, f, "a", 0, api.ErrNone)
	wantOK(t, "Write", f.Write("a", pgs(3, 0)))
	wantOneFails(t, f, 1)
}

// P6.4: a file that is removed is gone, and its room is there.
func TestRemove(t *testing.T) {
	f := filled(t, 6, map[string][]string{"a": pgs(3, 0), "b": pgs(2, 10), "c": pgs(1, 20)})
	for _, name := range append(noNames(), "d", "A", "aa", "ab", "!") {
		wantErr(t, fmt.Sprintf("Remove of %.20q", name), f.Remove(name), api.ErrNone)
	}
	wantFiles(t, f, map[string][]string{"a": pgs(3, 0), "b": pgs(2, 10), "c": pgs(1, 20)})
	wantOK(t, "Remove of b", f.Remove("b"))
	wantGone(t, f, "b")
	wantFiles(t, f, map[string][]string{"a": pgs(3, 0), "c": pgs(1, 20)})
	wantErr(t, "Put of a page that it had", f.Put("b", 1, pg(30)), api.ErrArg)
	wantErr(t, "Write of too many", f.Write("d", pgs(3, 30)), api.ErrRoom)
	wantOK(t, "Write", f.Write("d", pgs(2, 30)))
	wantOK(t, "Remove of a", f.Remove("a"))
	wantOK(t, "Remove of c", f.Remove("c"))
	wantOK(t, "Remove of d", f.Remove("d"))
	wantFiles(t, f, nil)
	wantOK(t, "Write of all", f.Write("b", pgs(6, 40)))
	wantFiles(t, f, map[string][]string{"b": pgs(6, 40)})
}

// put tells page, with its byte at put against x.
func put(page string, at int, x byte) string {
	was := page[at]
	var now byte
	for bit := byte(1); bit != 0; bit <<= 1 {
		if (was&bit != 0) != (x&bit != 0) {
			now += bit
		}
	}
	return page[:at] + string([]byte{now}) + page[at+1:]
}

// P6.4: one byte is put against x, and nothing else; the same again puts it back.
func TestFlip(t *testing.T) {
	f := filled(t, 9, map[string][]string{"a": pgs(3, 0), "b": pgs(3, 0)})
	for at := range 128 {
		for _, x := range []byte{0, 1, 2, 0x80, 0x55, 0xff} {
			i := at % 3
			l := pgs(3, 0)
			wantOK(t, "Flip", f.Flip("a", i, at, x))
			l[i] = put(l[i], at, x)
			wantFiles(t, f, map[string][]string{"a": l, "b": pgs(3, 0)})
			wantOK(t, "Flip again", f.Flip("a", i, at, x))
			wantFiles(t, f, map[string][]string{"a": pgs(3, 0), "b": pgs(3, 0)})
		}
	}
}

// P6.4: each byte against each other one, at the first and at the last place.
func TestFlipOfAllBytes(t *testing.T) {
	f := newFS(t, 1)
	for was := range 256 {
		page := strings.Repeat(string([]byte{byte(was)}), 128)
		for x := range 256 {
			wantOK(t, "Write", f.Write("a", []string{page}))
			wantOK(t, "Flip", f.Flip("a", 0, 0, byte(x)))
			wantOK(t, "Flip", f.Flip("a", 0, 127, byte(x)))
			wantRead(t, f, "a", 0, put(put(page, 0, byte(x)), 127, byte(x)))
		}
	}
}

// P6.4: several at one byte come to all of them together; a page that is written or put anew has none of them.
func TestFlipsAddUp(t *testing.T) {
	f := filled(t, 3, map[string][]string{"a": pgs(2, 0)})
	wantOK(t, "Flip", f.Flip("a", 1, 5, 3))
	wantOK(t, "Flip", f.Flip("a", 1, 5, 6))
	wantOK(t, "Flip", f.Flip("a", 1, 6, 9))
	wantFiles(t, f, map[string][]string{"a": {pg(0), put(put(pg(1), 5, 5), 6, 9)}})
	wantOK(t, "Put", f.Put("a", 1, pg(1)))
	wantFiles(t, f, map[string][]string{"a": pgs(2, 0)})
	wantOK(t, "Flip", f.Flip("a", 0, 127, 0xff))
	wantFiles(t, f, map[string][]string{"a": {put(pg(0), 127, 0xff), pg(1)}})
	wantOK(t, "Write", f.Write("a", pgs(2, 0)))
	wantFiles(t, f, map[string][]string{"a": pgs(2, 0)})
}

// P6.4: pages that are not there, and bytes that a page has not.
func TestFlipOfNothing(t *testing.T) {
	want := map[string][]string{"a": pgs(2, 0), "b": pgs(1, 5)}
	f := filled(t, 9, want)
	places := []int{-1, -128, math.MinInt, 128, 129, 256, 1 << 32, math.MaxInt}
	for _, at := range append(places, 0, 127) {
		for _, i := range []int{-1, math.MinInt, 2, 3, math.MaxInt, 1 << 32} {
			wantErr(t, fmt.Sprintf("Flip of %d, %d", i, at), f.Flip("a", i, at, 1), api.ErrNone)
		}
		for _, name := range append(noNames(), "c", "A") {
			wantErr(t, fmt.Sprintf("Flip of %.20q, %d", name, at), f.Flip(name, 0, at, 1), api.ErrNone)
		}
		wantErr(t, "Flip of b, 1", f.Flip("b", 1, at, 1), api.ErrNone)
	}
	for _, at := range places {
		for _, x := range []byte{0, 1, 0xff} {
			wantErr(t, fmt.Sprintf("Flip of %d", at), f.Flip("a", 1, at, x), api.ErrArg)
		}
	}
	wantFiles(t, f, want)
}

// P6.5: names rise by their bytes, whatever the order in which files were written, and are the same whenever they are told.
func TestNamesRise(t *testing.T) {
	names := []string{"b", "a", "aa", "a!", "ab", "B", "~", "!", "!!", "0", "10", "9", "Z", "z", "_", "a~", "~!", "abcdefgh", "abcdefg", "a0", "a-"}
	for turn := range len(names) {
		f := newFS(t, 100)
		order := append(slices.Clone(names[turn:]), names[:turn]...)
		for i, name := range order {
			wantOK(t, "Put", f.Put(name, 0, pg(i)))
			want := slices.Clone(order[:i+1])
			slices.SortFunc(want, func(a, b string) int { return bytes.Compare([]byte(a), []byte(b)) })
			for range 3 {
				if l := f.Names(); !slices.Equal(l, want) {
					t.Fatalf("Names: %q, not %q", l, want)
				}
			}
		}
	}
}

// P6.5: all names of one byte, and a file system full of files.
func TestManyNames(t *testing.T) {
	f := newFS(t, 4096)
	want := map[string][]string{}
	for b := 126; b >= 33; b-- {
		want[string([]byte{byte(b)})] = pgs(1, b)
	}
	for i := len(want); i < 4096; i++ {
		want[fmt.Sprint(i*7919%9973, "x")] = pgs(1, i)
	}
	if len(want) != 4096 {
		t.Fatal(len(want))
	}
	for name, pages := range want {
		wantOK(t, "Write", f.Write(name, pages))
	}
	wantErr(t, "Write of one file more", f.Write("more", pgs(1, 0)), api.ErrRoom)
	wantFiles(t, f, want)
}

// P6.5: how many pages one file has, and all have, as they come and go.
func TestPagesAndUsed(t *testing.T) {
	f := newFS(t, 10)
	for i, x := range []struct {
		e            api.Errno
		a, b, inUse  int
		pagesOfOther int
	}{
		{f.Write("a", pgs(3, 0)), f.Pages("a"), f.Pages("b"), f.Used(), f.Pages("A")},
		{f.Put("b", 0, pg(0)), f.Pages("a"), f.Pages("b"), f.Used(), f.Pages("")},
		{f.Put("b", 1, pg(0)), f.Pages("a"), f.Pages("b"), f.Used(), f.Pages("ab")},
		{f.Put("b", 1, pg(1)), f.Pages("a"), f.Pages("b"), f.Used(), f.Pages("a ")},
		{f.Write("a", pgs(8, 0)), f.Pages("a"), f.Pages("b"), f.Used(), f.Pages("abcdefghi")},
		{f.Write("a", pgs(1, 0)), f.Pages("a"), f.Pages("b"), f.Used(), f.Pages("\xff")},
		{f.Remove("b"), f.Pages("a"), f.Pages("b"), f.Used(), f.Pages("c")},
		{f.Write("a", nil), f.Pages("a"), f.Pages("b"), f.Used(), f.Pages("c")},
	} {
		want := [][3]int{{3, 0, 3}, {3, 1, 4}, {3, 2, 5}, {3, 2, 5}, {8, 2, 10}, {1, 2, 3}, {1, 0, 1}, {0, 0, 0}}[i]
		if x.e != api.OK || x.a != want[0] || x.b != want[1] || x.inUse != want[2] || x.pagesOfOther != 0 {
			t.Errorf("%d: %v, not %v", i, x, want)
		}
	}
}

// R3: of a file system that is nil, or that New did not make: ErrNil, nothing, 0; whatever else is wrong.
func TestNone(t *testing.T) {
	for name, f := range map[string]*FS{"nil": nil, "not made": {}, "new": new(FS)} {
		for range 2 {
			for _, text := range []string{"a", "", "a b"} {
				wantErr(t, name+": Write", f.Write(text, pgs(1, 0)), api.ErrNil)
				wantErr(t, name+": Write of none", f.Write(text, nil), api.ErrNil)
				wantErr(t, name+": Write of no page", f.Write(text, []string{"x"}), api.ErrNil)
				wantErr(t, name+": Remove", f.Remove(text), api.ErrNil)
				if n := f.Pages(text); n != 0 {
					t.Errorf("%s: %d pages", name, n)
				}
				for _, i := range []int{0, -1, 1, math.MaxInt, math.MinInt} {
					wantErr(t, name+": Put", f.Put(text, i, pg(0)), api.ErrNil)
					wantErr(t, name+": Put of no page", f.Put(text, i, "x"), api.ErrNil)
					wantNotRead(t, f, text, i, api.ErrNil)
					wantErr(t, name+": Flip", f.Flip(text, i, 0, 1), api.ErrNil)
					wantErr(t, name+": Flip", f.Flip(text, i, 128, 1), api.ErrNil)
					wantErr(t, name+": Fail", f.Fail(i), api.ErrNil)
				}
			}
			if l := f.Names(); len(l) != 0 {
				t.Errorf("%s: names %q", name, l)
			}
			if n := f.Used(); n != 0 {
				t.Errorf("%s: %d used", name, n)
			}
		}
	}
}

// P6.6, R5: where more than one error holds, the one that is named first is told; nothing is changed, and a Fail stays.
func TestErrorsChangeNothing(t *testing.T) {
	want := map[string][]string{"a": pgs(3, 0), "b": pgs(1, 10)}
	short, long := mixed(127, 1), mixed(129, 1)
	for i, x := range []struct {
		do   func(f *FS) api.Errno
		want api.Errno
	}{
		{func(f *FS) api.Errno { return f.Write("c", pgs(1, 20)) }, api.ErrRoom},
		{func(f *FS) api.Errno { return f.Write("a", pgs(4, 20)) }, api.ErrRoom},
		{func(f *FS) api.Errno { return f.Write("b", pgs(5000, 20)) }, api.ErrRoom},
		{func(f *FS) api.Errno { return f.Write("", pgs(9, 20)) }, api.ErrArg},
		{func(f *FS) api.Errno { return f.Write("a b", pgs(9, 20)) }, api.ErrArg},
		{func(f *FS) api.Errno { return f.Write("abcdefghi", []string{short}) }, api.ErrArg},
		{func(f *FS) api.Errno { return f.Write("a", append(pgs(9, 20), short)) }, api.ErrArg},
		{func(f *FS) api.Errno { return f.Write("a", append([]string{long}, pgs(9, 20)...)) }, api.ErrArg},
		{func(f *FS) api.Errno { return f.Write("a", []string{pg(20), "", pg(21)}) }, api.ErrArg},
		{func(f *FS) api.Errno { return f.Put("a", 3, pg(20)) }, api.ErrRoom},
		{func(f *FS) api.Errno { return f.Put("b", 1, pg(20)) }, api.ErrRoom},
		{func(f *FS) api.Errno { return f.Put("c", 0, pg(20)) }, api.ErrRoom},
		{func(f *FS) api.Errno { return f.Put("", 0, pg(20)) }, api.ErrArg},
		{func(f *FS) api.Errno { return f.Put("\x7f", 0, short) }, api.ErrArg},
		{func(f *FS) api.Errno { return f.Put("a", 3, short) }, api.ErrArg},
		{func(f *FS) api.Errno { return f.Put("a", 3, long) }, api.ErrArg},
		{func(f *FS) api.Errno { return f.Put("c", 0, long) }, api.ErrArg},
		{func(f *FS) api.Errno { return f.Put("a", 0, short) }, api.ErrArg},
		{func(f *FS) api.Errno { return f.Put("a", 4, pg(20)) }, api.ErrArg},
		{func(f *FS) api.Errno { return f.Put("c", 1, pg(20)) }, api.ErrArg},
		{func(f *FS) api.Errno { return f.Put("a", -1, pg(20)) }, api.ErrArg},
		{func(f *FS) api.Errno { return f.Remove("c") }, api.ErrNone},
		{func(f *FS) api.Errno { return f.Remove("a b") }, api.ErrNone},
		{func(f *FS) api.Errno { return f.Flip("a", 3, 0, 1) }, api.ErrNone},
		{func(f *FS) api.Errno { return f.Flip("a", 3, 128, 1) }, api.ErrNone},
		{func(f *FS) api.Errno { return f.Flip("c", 0, -1, 1) }, api.ErrNone},
		{func(f *FS) api.Errno { return f.Flip("a", 2, 128, 1) }, api.ErrArg},
		{func(f *FS) api.Errno { return f.Flip("a", 2, -1, 1) }, api.ErrArg},
		{func(f *FS) api.Errno { return f.Fail(-1) }, api.ErrArg},
		{func(f *FS) api.Errno { _, e := f.Read("a", 3); return e }, api.ErrNone},
		{func(f *FS) api.Errno { _, e := f.Read("a b", 0); return e }, api.ErrNone},
	} {
		f := filled(t, 4, want)
		wantErr(t, fmt.Sprint("call ", i), x.do(f), x.want)
		wantFiles(t, f, want)
		for n := range 3 {
			wantOK(t, "Fail", f.Fail(n))
			wantErr(t, fmt.Sprint("call ", i), x.do(f), x.want)
			wantOneFails(t, f, n)
		}
		wantFiles(t, f, want)
	}
}

// P6.3, P6.6: a page that is not there is ErrNone, also where the next read is to fail; a read that failed was done.
func TestNoPageAheadOfAFailingRead(t *testing.T) {
	want := map[string][]string{"a": pgs(1, 0)}
	f := filled(t, 4, want)
	wantOK(t, "Fail", f.Fail(0))
	for range 3 {
		wantNotRead(t, f, "a", 1, api.ErrNone)
		wantNotRead(t, f, "b", 0, api.ErrNone)
	}
	wantNotRead(t, f, "a", 0, api.ErrRead)
	wantFiles(t, f, want)
}

// R4: lists that were handed in stay as they were, and are not looked at later.
func TestHandedInIsNotKept(t *testing.T) {
	f := newFS(t, 10)
	l := append(make([]string, 0, 8), pgs(3, 0)...)
	wantOK(t, "Write of a", f.Write("a", l))
	wantOK(t, "Write of b", f.Write("b", l[:2]))
	wantOK(t, "Flip", f.Flip("a", 0, 0, 1))
	wantOK(t, "Put", f.Put("a", 1, pg(20)))
	wantOK(t, "Put", f.Put("b", 2, pg(30)))
	wantOK(t, "Put", f.Put("a", 3, pg(40)))
	if !slices.Equal(l, pgs(3, 0)) || l[:4][3] != "" {
		t.Error("the list was changed")
	}
	want := map[string][]string{"a": {put(pg(0), 0, 1), pg(20), pg(2), pg(40)}, "b": {pg(0), pg(1), pg(30)}}
	wantFiles(t, f, want)
	l[0], l[1], l[2] = "x", pg(50), ""
	_ = append(l, "y", "z")
	wantFiles(t, f, want)
}

// R4: texts that were handed in are not kept: a page may be a piece of a long text.
func TestTextsAreCopied(t *testing.T) {
	f := newFS(t, 10)
	text := mixed(4*128, 1)
	names := "abc"
	// Each name comes to the map by one call alone: a key may be changed by the next one.
	wantOK(t, "Write", f.Write(names[:1], []string{text[:128]}))
	wantOK(t, "Put", f.Put(names[1:2], 0, text[128:256]))
	wantOK(t, "Write", f.Write(names[2:], pgs(1, 0)))
	wantOK(t, "Put", f.Put(names[2:], 0, text[256:384]))
	for i, name := range f.Names() {
		if unsafe.StringData(name) == unsafe.StringData(names[i:]) {
			t.Errorf("the name %s is kept as it was handed in", name)
		}
		wantRead(t, f, name, 0, text[128*i:128*i+128])
		if page, _ := f.Read(name, 0); unsafe.StringData(page) == unsafe.StringData(text[128*i:]) {
			t.Errorf("the page of %s is kept as it was handed in", name)
		}
	}
}

// R4: what was told is the caller's own: it stays as it was, and what is done with it changes nothing.
func TestToldIsTheCallersOwn(t *testing.T) {
	want := map[string][]string{"a": pgs(2, 0), "b": pgs(1, 10), "c": pgs(1, 20)}
	f := filled(t, 10, want)
	names := f.Names()
	page, _ := f.Read("a", 0)
	names[0], names[1] = "x", "a"
	_ = append(names[:2], "y")
	wantFiles(t, f, want)
	names = f.Names()
	wantOK(t, "Remove", f.Remove("b"))
	wantOK(t, "Flip", f.Flip("a", 0, 0, 1))
	wantOK(t, "Write", f.Write("B", pgs(1, 0)))
	if page != pg(0) || !slices.Equal(names, []string{"a", "b", "c"}) {
		t.Errorf("%q, %q", page, names)
	}
}

// plain is a file system as the document says it: one list of all pages, each with its file's name, and no map.
type plain struct {
	room   int
	all    []plainPage // of each file in order
	reads  uint64      // of pages that are there
	fails  bool
	failAt uint64 // the number of the read that fails
}

type plainPage struct {
	name, text string
}

// places tells where in the list the pages of the file are.
func (p *plain) places(name string) []int {
	var l []int
	for k, x := range p.all {
		if x.name == name {
			l = append(l, k)
		}
	}
	return l
}

func (p *plain) take(name string) {
	p.all = slices.DeleteFunc(p.all, func(x plainPage) bool { return x.name == name })
}

func (p *plain) write(name string, pages []string) api.Errno {
	for _, text := range pages {
		if len(text) != 128 {
			return api.ErrArg
		}
	}
	if strings.Trim(name, "abcdefgh!~") != "" || name == "" || len(name) > 8 {
		return api.ErrArg
	}
	if len(p.all)+len(pages) > p.room+len(p.places(name)) {
		return api.ErrRoom
	}
	p.take(name)
	for _, text := range pages {
		p.all = append(p.all, plainPage{name, text})
	}
	return api.OK
}

func (p *plain) put(name string, i int, text string) api.Errno {
	var pages []string
	for _, k := range p.places(name) {
		pages = append(pages, p.all[k].text)
	}
	if i < 0 || i > len(pages) {
		return api.ErrArg
	}
	pages = append(pages, text)[:max(len(pages), i+1)]
	pages[i] = text
	return p.write(name, pages)
}

func (p *plain) read(name string, i int) (string, api.Errno) {
	l := p.places(name)
	if i < 0 || i >= len(l) {
		return "", api.ErrNone
	}
	p.reads++
	if p.fails && p.reads == p.failAt {
		return "", api.ErrRead
	}
	return p.all[l[i]].text, api.OK
}

func (p *plain) remove(name string) api.Errno {
	if len(p.places(name)) == 0 {
		return api.ErrNone
	}
	p.take(name)
	return api.OK
}

func (p *plain) fail(n int) api.Errno {
	if n < 0 {
		return api.ErrArg
	}
	p.fails, p.failAt = true, p.reads+uint64(n)+1
	return api.OK
}

func (p *plain) flip(name string, i, at int, x byte) api.Errno {
	l := p.places(name)
	if i < 0 || i >= len(l) {
		return api.ErrNone
	}
	if at < 0 || at > 127 {
		return api.ErrArg
	}
	p.all[l[i]].text = put(p.all[l[i]].text, at, x)
	return api.OK
}

func (p *plain) names() []string {
	var l []string
	for _, x := range p.all {
		l = append(l, x.name)
	}
	sort.Strings(l)
	return slices.Compact(l)
}

// pick tells the one of l that b says.
func pick[T any](b byte, l ...T) T {
	return l[int(b)%len(l)]
}

// act does one act with both, and fails if they tell otherwise.
func act(t *testing.T, f *FS, p *plain, a [5]byte) {
	name := pick(a[1], "a", "b", "ab", "~", "!", "abcdefgh", "c", "a", "b", "a b", "", "abcdefghi")
	i := pick(a[2], 0, 1, 2, 3, 4, 0, 1, 2, f.Pages(name), f.Pages(name)-1, -1, math.MaxInt, math.MinInt)
	page := pick(a[3], pg(1), pg(2), pg(3), pg(4), pg(5), pg(6), pg(7), pg(8)[:127], pg(9)+"x")
	var e, want api.Errno
	var s, wantText string
	switch a[0] % 16 {
	case 0, 1:
		l := pgs(int(a[2]%7), int(a[3]))
		if a[4]%8 == 0 && len(l) > 0 {
			l[int(a[3])%len(l)] = page
		}
		e, want = f.Write(name, l), p.write(name, l)
	case 2, 3, 4:
		e, want = f.Put(name, i, page), p.put(name, i, page)
	case 5:
		e, want = f.Remove(name), p.remove(name)
	case 6:
		n := pick(a[2], 0, 1, 2, 3, 5, 8, -1, math.MaxInt, math.MinInt)
		e, want = f.Fail(n), p.fail(n)
	case 7, 8:
		at := pick(a[3], 0, 1, 64, 126, 127, 128, -1, math.MaxInt)
		e, want = f.Flip(name, i, at, a[4]), p.flip(name, i, at, a[4])
	default:
		s, e = f.Read(name, i)
		wantText, want = p.read(name, i)
	}
	if e != want || s != wantText {
		t.Fatalf("%v: %v, %.20q; not %v, %.20q", a, e, s, want, wantText)
	}
	if l := f.Names(); !slices.Equal(l, p.names()) || f.Used() != len(p.all) || f.Pages(name) != len(p.places(name)) {
		t.Fatalf("%v: %q, %d used, %d pages of %q", a, l, f.Used(), f.Pages(name), name)
	}
}

// sameActs does the acts that data says, with both, and then reads all pages.
func sameActs(t *testing.T, room int, data string) {
	t.Helper()
	f, p := newFS(t, room), &plain{room: room}
	for ; len(data) >= 5; data = data[5:] {
		act(t, f, p, [5]byte([]byte(data)))
	}
	for _, name := range p.names() {
		for i := range p.places(name) {
			s, e := f.Read(name, i)
			if want, wantE := p.read(name, i); s != want || e != wantE {
				t.Fatalf("Read(%q, %d): %.20q, %v; not %.20q, %v", name, i, s, e, want, wantE)
			}
		}
	}
}

// P6.6: whatever is done, one act behind the other, is told as by one list of all pages.
func TestActsAsAPlainList(t *testing.T) {
	for seed := range 300 {
		sameActs(t, 1+seed%13, mixed(5*400, seed))
	}
}

// P0.6: what is done twice, from the beginning on, tells the same.
func TestTheSameAgain(t *testing.T) {
	do := func() string {
		f := newFS(t, 40)
		var told []string
		for i := range 400 {
			name := fmt.Sprint("f", i*7%23)
			told = append(told, fmt.Sprint(f.Put(name, i%3, pg(i)), f.Fail(i%5), f.Names(), f.Used()))
			s, e := f.Read(name, i%2)
			told = append(told, s, e.Error())
			if i%11 == 0 {
				told = append(told, fmt.Sprint(f.Remove(name), f.Flip("f1", 0, i%130, byte(i))))
			}
		}
		return strings.Join(told, "\n")
	}
	if do() != do() {
		t.Error("something else is told")
	}
}

// FuzzActs: whatever acts, in whatever room, a file system tells what one list of all pages tells.
func FuzzActs(f *testing.F) {
	for seed := range 10 {
		f.Add(1+seed, mixed(100*seed, seed))
	}
	f.Fuzz(func(t *testing.T, room int, data string) {
		sameActs(t, min(max(room, 1), 4096), data)
	})
}
