package cache

import (
	"crypto/sha3"
	"fmt"
	"math"
	"slices"
	"strings"
	"testing"
	"unsafe"

	"carousel/api"
	"carousel/files"
	"carousel/pages"
)

// mixed is n bytes that have no order, another text for each seed.
func mixed(n, seed int) string {
	return string(sha3.SumSHAKE128([]byte(fmt.Sprint(seed)), n))
}

func wantErr(t *testing.T, what string, e, want api.Errno) {
	t.Helper()
	if e != want {
		t.Errorf("%s: %v, not %v", what, e, want)
	}
}

func wantOK(t *testing.T, what string, e api.Errno) {
	t.Helper()
	wantErr(t, what, e, api.OK)
}

func newFS(t *testing.T, room int) *files.FS {
	t.Helper()
	f, e := files.New(room)
	if f == nil || e != api.OK {
		t.Fatalf("files.New(%d): %v, %v", room, f, e)
	}
	return f
}

func newCache(t *testing.T, f *files.FS, most int) *Cache {
	t.Helper()
	c, e := New(f, most)
	if c == nil || e != api.OK {
		t.Fatalf("New(%d): %v, %v", most, c, e)
	}
	return c
}

// pageOf is the page of data, as the file system has it.
func pageOf(t *testing.T, data string) string {
	t.Helper()
	page, e := pages.Encode(data)
	if e != api.OK {
		t.Fatalf("pages.Encode of %d bytes: %v", len(data), e)
	}
	return page
}

// writeFile lets the file have so many pages, with the data x0, x1 and so on, if x is its name.
func writeFile(t *testing.T, f *files.FS, name string, many int) {
	t.Helper()
	var l []string
	for i := range many {
		l = append(l, pageOf(t, fmt.Sprint(name, i)))
	}
	wantOK(t, "Write of "+name, f.Write(name, l))
}

// filled is a cache over a file system of 300 pages, with a file f and a file g of 70 pages each, and a file z of 100, of which none is there.
func filled(t *testing.T, most int) *Cache {
	t.Helper()
	f := newFS(t, 300)
	writeFile(t, f, "f", 70)
	writeFile(t, f, "g", 70)
	writeFile(t, f, "z", 100)
	return newCache(t, f, most)
}

// get is c.Get or c.Pin.
type get func(name string, i int) (string, api.Errno)

func wantGot(t *testing.T, get get, name string, i int, want string) {
	t.Helper()
	if s, e := get(name, i); s != want || e != api.OK {
		t.Errorf("%s, %d: %.20q, %v; not %.20q, OK", name, i, s, e, want)
	}
}

func wantNotGot(t *testing.T, get get, name string, i int, want api.Errno) {
	t.Helper()
	if s, e := get(name, i); s != "" || e != want {
		t.Errorf("%.20q, %d: %.20q, %v; not nothing, %v", name, i, s, e, want)
	}
}

// getAll gets the pages of the file f with these numbers, in order.
func getAll(t *testing.T, c *Cache, l ...int) {
	t.Helper()
	for _, i := range l {
		wantGot(t, c.Get, "f", i, fmt.Sprint("f", i))
	}
}

func pinAll(t *testing.T, c *Cache, l ...int) {
	t.Helper()
	for _, i := range l {
		wantGot(t, c.Pin, "f", i, fmt.Sprint("f", i))
	}
}

// wantThere fails if other pages are there than those of the file f with these numbers, or if not so many have pins.
func wantThere(t *testing.T, c *Cache, pinned int, l ...int) {
	t.Helper()
	if n := c.Len(); n != len(l) {
		t.Errorf("Len: %d, not %d", n, len(l))
	}
	if n := c.Pinned(); n != pinned {
		t.Errorf("Pinned: %d, not %d", n, pinned)
	}
	for i := -1; i <= 71; i++ {
		if has := slices.Contains(l, i); c.Has("f", i) != has {
			t.Errorf("Has(f, %d): %v", i, !has)
		}
	}
}

// wantGo fails if the pages of the file f that are there don't go in this order, one by one, when others come. It asks for pages of the file z, from from on.
func wantGo(t *testing.T, c *Cache, from int, l ...int) {
	t.Helper()
	many := c.Len()
	for k, i := range l {
		if !c.Has("f", i) {
			t.Errorf("the page %d went too early", i)
		}
		wantGot(t, c.Get, "z", from+k, fmt.Sprint("z", from+k))
		if c.Has("f", i) {
			t.Errorf("the page %d did not go", i)
		}
		for _, later := range l[k+1:] {
			if !c.Has("f", later) {
				t.Errorf("the page %d went ahead of its turn, with %d", later, i)
			}
		}
	}
	if n := c.Len(); n != many {
		t.Errorf("Len: %d, not %d", n, many)
	}
}

// reads tells how many reads of the file system are done by do. A read of the file z has to be there.
func reads(t *testing.T, f *files.FS, do func()) int {
	t.Helper()
	const far = 1000
	wantOK(t, "Fail", f.Fail(far))
	do()
	for left := 0; left <= far; left++ {
		if _, e := f.Read("z", 0); e == api.ErrRead {
			return far - left
		}
	}
	t.Fatalf("no read failed")
	return 0
}

func wantReads(t *testing.T, what string, f *files.FS, want int, do func()) {
	t.Helper()
	if n := reads(t, f, do); n != want {
		t.Errorf("%s: %d reads, not %d", what, n, want)
	}
}

func wantInFile(t *testing.T, f *files.FS, name string, i int, data string) {
	t.Helper()
	if page, e := f.Read(name, i); page != pageOf(t, data) || e != api.OK {
		t.Errorf("the file's page %s, %d: %.20q, %v; not that of %.20q", name, i, page, e, data)
	}
}

// farPlaces are numbers that no page has.
func farPlaces() []int {
	return []int{-1, -2, -70, 70, 71, 1 << 31, 1 << 32, -1 << 32, 1<<32 + 1, math.MinInt, math.MinInt + 1, math.MaxInt, math.MaxInt - 1}
}

// noNames are texts that are no names of files.
func noNames() []string {
	return []string{"", " ", "f ", " f", "\x7f", "\x80", "\xff", "f\x00", "\x00", "é", "\n", "abcdefghi", strings.Repeat("f", 1<<16)}
}

// The document's examples.
func TestExamples(t *testing.T) {
	f := newFS(t, 9)
	for i, data := range []string{"a", "b", "c"} {
		wantOK(t, "Put", f.Put("f", i, pageOf(t, data)))
	}
	c := newCache(t, f, 2)
	wantGot(t, c.Get, "f", 0, "a")
	wantGot(t, c.Pin, "f", 1, "b")
	wantGot(t, c.Get, "f", 2, "c")
	wantThere(t, c, 1, 1, 2)
	wantGot(t, c.Pin, "f", 2, "c")
	wantNotGot(t, c.Get, "f", 0, api.ErrPinned)
	wantOK(t, "Unpin", c.Unpin("f", 1))
	wantGot(t, c.Get, "f", 0, "a")
	wantThere(t, c, 1, 0, 2)
	wantErr(t, "Unpin", c.Unpin("f", 0), api.ErrNone)
}

// P7.1: a new cache is over its file system, has no pages, reads nothing, and keeps as many as it may.
func TestNew(t *testing.T) {
	for _, most := range []int{1, 2, 3, 63, 64} {
		f := filled(t, 1).FS()
		var c *Cache
		wantReads(t, "New", f, 0, func() { c = newCache(t, f, most) })
		wantThere(t, c, 0)
		if c.FS() != f {
			t.Errorf("FS is another one")
		}
		var all []int
		for i := range most {
			all = append(all, i)
			getAll(t, c, i)
			wantThere(t, c, 0, all...)
		}
		for i := most; i < 70; i++ {
			getAll(t, c, i)
			all = append(all[1:], i)
			wantThere(t, c, 0, all...)
		}
		if c.FS() != f {
			t.Errorf("FS is another one, behind Gets")
		}
	}
}

// P7.1: how many pages there may not be.
func TestNewRefuses(t *testing.T) {
	f := newFS(t, 1)
	for _, most := range []int{0, -1, -64, math.MinInt, 65, 66, 128, 4096, 1 << 32, 1<<32 + 1, math.MaxInt} {
		if c, e := New(f, most); c != nil || e != api.ErrArg {
			t.Errorf("New(%d): %v, %v", most, c, e)
		}
	}
	for _, most := range []int{1, 2, 64, 0, -1, 65, math.MinInt, math.MaxInt} {
		if c, e := New(nil, most); c != nil || e != api.ErrNil {
			t.Errorf("New(nil, %d): %v, %v", most, c, e)
		}
	}
}

// P7.1: a file system that is not nil is taken; one that files.New did not make tells its own error.
func TestNewOverAFileSystemThatIsNone(t *testing.T) {
	f := new(files.FS)
	c := newCache(t, f, 2)
	if c.FS() != f {
		t.Errorf("FS is another one")
	}
	wantNotGot(t, c.Get, "f", 0, api.ErrNil)
	wantNotGot(t, c.Pin, "f", 0, api.ErrNil)
	wantErr(t, "Put", c.Put("f", 0, "x"), api.ErrNil)
	wantErr(t, "Put of too much", c.Put("f", 0, mixed(123, 0)), api.ErrLong)
	wantErr(t, "Unpin", c.Unpin("f", 0), api.ErrNone)
	c.Drop("f")
	wantThere(t, c, 0)
}

// P7.1: two caches over one file system have their own pages, pins and uses.
func TestCachesAreApart(t *testing.T) {
	c := filled(t, 2)
	d := newCache(t, c.FS(), 2)
	pinAll(t, c, 0, 1)
	wantThere(t, d, 0)
	getAll(t, d, 5, 0)
	wantThere(t, c, 2, 0, 1)
	wantThere(t, d, 0, 0, 5)
	d.Drop("f")
	wantThere(t, c, 2, 0, 1)
	wantOK(t, "Put", d.Put("f", 0, "new"))
	wantGot(t, c.Get, "f", 0, "f0")
	wantErr(t, "Unpin", d.Unpin("f", 0), api.ErrNone)
	wantThere(t, c, 2, 0, 1)
}

// someData are texts that a page may have.
func someData() []string {
	return []string{"", "\x00", "a", "\xff", "ab", mixed(121, 1), mixed(122, 2), strings.Repeat("\x00", 122), strings.Repeat("\xff", 122), strings.Repeat("é", 61)}
}

// P7.2: pages of whatever data are got, and got again without a read.
func TestGet(t *testing.T) {
	for _, most := range []int{1, 2, 64} {
		c := filled(t, most)
		for i, data := range someData() {
			wantOK(t, "Put into the file", c.FS().Put("f", i, pageOf(t, data)))
			for _, want := range []int{1, 0, 0} {
				wantReads(t, "Get", c.FS(), want, func() { wantGot(t, c.Get, "f", i, data) })
				if !c.Has("f", i) || c.Len() != min(i+1, most) || c.Pinned() != 0 {
					t.Errorf("the page %d: %v, %d, %d", i, c.Has("f", i), c.Len(), c.Pinned())
				}
			}
		}
	}
}

// P7.2: pages are told apart by their names and by their numbers.
func TestPagesOfFilesAreApart(t *testing.T) {
	f := newFS(t, 100)
	names := []string{"f", "ff", "f1", "f11", "1", "11", "F", "~", "abcdefgh"}
	for _, name := range names {
		writeFile(t, f, name, 3)
	}
	c := newCache(t, f, 64)
	for n, name := range names {
		for i := range 3 {
			if c.Has(name, i) {
				t.Errorf("%s, %d is there already", name, i)
			}
			wantGot(t, c.Get, name, i, fmt.Sprint(name, i))
			if !c.Has(name, i) || c.Len() != 3*n+i+1 {
				t.Errorf("%s, %d: %v, %d", name, i, c.Has(name, i), c.Len())
			}
		}
	}
	for _, name := range names {
		for i := range 3 {
			wantGot(t, c.Get, name, i, fmt.Sprint(name, i))
		}
	}
}

// P7.2: a page that is there is told as it came, whatever its file has by now, till it goes.
func TestGetOfWhatIsThere(t *testing.T) {
	for what, change := range map[string]func(f *files.FS) api.Errno{
		"put":     func(f *files.FS) api.Errno { return f.Put("f", 1, strings.Repeat("x", 128)) },
		"flipped": func(f *files.FS) api.Errno { return f.Flip("f", 1, 5, 7) },
		"removed": func(f *files.FS) api.Errno { return f.Remove("f") },
		"shorter": func(f *files.FS) api.Errno { return f.Write("f", []string{strings.Repeat("x", 128)}) },
		"fails":   func(f *files.FS) api.Errno { return f.Fail(0) },
	} {
		c := filled(t, 2)
		getAll(t, c, 1)
		wantOK(t, what, change(c.FS()))
		wantGot(t, c.Get, "f", 1, "f1")
		wantGot(t, c.Pin, "f", 1, "f1")
		wantGot(t, c.Get, "f", 1, "f1")
		wantThere(t, c, 1, 1)
	}
}

// P7.2: a page that went, or was dropped, is read anew.
func TestGetOfWhatIsThereNoMore(t *testing.T) {
	c := filled(t, 1)
	getAll(t, c, 1)
	wantOK(t, "Put into the file", c.FS().Put("f", 1, pageOf(t, "new")))
	getAll(t, c, 1, 2)
	wantGot(t, c.Get, "f", 1, "new")
	wantOK(t, "Put into the file", c.FS().Put("f", 1, pageOf(t, "newer")))
	wantGot(t, c.Get, "f", 1, "new")
	c.Drop("f")
	wantReads(t, "Get", c.FS(), 1, func() { wantGot(t, c.Get, "f", 1, "newer") })
}

// P7.2: of all pages without pins the one goes that was used the longest time ago, whatever use that was.
func TestTheOldestGoes(t *testing.T) {
	for _, use := range []func(c *Cache, i int){
		func(c *Cache, i int) { c.Get("f", i) },
		func(c *Cache, i int) { c.Pin("f", i); c.Unpin("f", i) },
		func(c *Cache, i int) { c.Put("f", i, fmt.Sprint("f", i)) },
		func(c *Cache, i int) { c.Put("f", i, "other") },
	} {
		for again := range 4 {
			c := filled(t, 4)
			for i := range 4 {
				use(c, i)
			}
			use(c, again)
			order := slices.DeleteFunc([]int{0, 1, 2, 3}, func(i int) bool { return i == again })
			wantGo(t, c, 0, append(order, again)...)
		}
	}
}

// P7.2, P7.4: whoever comes, just one goes, and just when there is no room.
func TestOneGoes(t *testing.T) {
	for what, come := range map[string]func(c *Cache) api.Errno{
		"Get":  func(c *Cache) api.Errno { _, e := c.Get("f", 9); return e },
		"Pin":  func(c *Cache) api.Errno { _, e := c.Pin("f", 9); return e },
		"Put":  func(c *Cache) api.Errno { return c.Put("f", 9, "f9") },
		"Put+": func(c *Cache) api.Errno { return c.Put("f", 9, "") },
	} {
		pinned := 0
		if what == "Pin" {
			pinned = 1
		}
		c := filled(t, 4)
		getAll(t, c, 2, 0, 1)
		wantOK(t, what, come(c))
		wantThere(t, c, pinned, 0, 1, 2, 9)
		c = filled(t, 3)
		getAll(t, c, 2, 0, 1)
		wantOK(t, what, come(c))
		wantThere(t, c, pinned, 0, 1, 9)
		wantOK(t, what, come(c))
		wantThere(t, c, pinned, 0, 1, 9)
		wantGo(t, c, 0, 0, 1)
	}
}

// P7.2, P7.3: what is no use: Unpin, Has, Len, Pinned, and a Drop of other files.
func TestWhatIsNoUse(t *testing.T) {
	c := filled(t, 5)
	wantGot(t, c.Get, "g", 0, "g0")
	pinAll(t, c, 0, 0)
	getAll(t, c, 1, 2, 3)
	wantReads(t, "no use", c.FS(), 0, func() {
		wantOK(t, "Unpin", c.Unpin("f", 0))
		wantOK(t, "Unpin", c.Unpin("f", 0))
		wantErr(t, "Unpin", c.Unpin("f", 1), api.ErrNone)
		for i := range 4 {
			if !c.Has("f", i) || c.Has("f", 7) || c.Len() != 5 || c.Pinned() != 0 {
				t.Errorf("the page %d is not there", i)
			}
		}
		c.Drop("g")
		c.Drop("z")
	})
	wantGot(t, c.Get, "z", 99, "z99")
	wantGo(t, c, 0, 0, 1, 2, 3)
}

// P7.2: the page that was used last goes, if it is the only one without pins; one with pins stays, however long it was not used.
func TestWithoutPinsAlone(t *testing.T) {
	for free := range 4 {
		c := filled(t, 4)
		getAll(t, c, free)
		for i := range 4 {
			if i != free {
				pinAll(t, c, i)
			}
		}
		getAll(t, c, free)
		wantGo(t, c, 0, free)
		wantReads(t, "Get", c.FS(), 10, func() {
			for i := range 10 {
				wantGot(t, c.Get, "z", 10+i, fmt.Sprint("z", 10+i))
			}
		})
		if c.Has("f", free) || c.Len() != 4 || c.Pinned() != 3 {
			t.Errorf("%v, %d, %d", c.Has("f", free), c.Len(), c.Pinned())
		}
	}
}

// P7.2: a read that fails changes nothing, and is done: the same Get behind it is told.
func TestGetFails(t *testing.T) {
	for _, pin := range []bool{false, true} {
		c := filled(t, 3)
		get := c.Get
		if pin {
			get = c.Pin
		}
		getAll(t, c, 2, 0, 1)
		wantOK(t, "Fail", c.FS().Fail(0))
		wantNotGot(t, get, "f", 5, api.ErrRead)
		wantThere(t, c, 0, 0, 1, 2)
		wantGot(t, get, "f", 5, "f5")
		pinned := 0
		if pin {
			pinned = 1
		}
		wantThere(t, c, pinned, 0, 1, 5)
		wantGo(t, c, 0, 0, 1)
	}
}

// P7.2: a Get reads once, if the page is not there; not at all, if no such page is.
func TestGetReadsOnce(t *testing.T) {
	c := filled(t, 2)
	for _, get := range []get{c.Get, c.Pin} {
		wantReads(t, "a page", c.FS(), 1, func() { get("g", 5) })
		wantReads(t, "the same", c.FS(), 0, func() { get("g", 5) })
		wantReads(t, "no page", c.FS(), 0, func() { wantNotGot(t, get, "f", 70, api.ErrNone) })
		c.Drop("g")
	}
	wantOK(t, "Flip", c.FS().Flip("f", 0, 0, 1))
	wantReads(t, "a damaged page", c.FS(), 1, func() { wantNotGot(t, c.Get, "f", 0, api.ErrPage) })
}

// P7.2: a page whose bytes were turned over ahead of its Get is none, and is not there; turned back, it is one again.
func TestGetOfDamage(t *testing.T) {
	for at := range api.PageSize {
		for _, x := range []byte{1, 128, 255} {
			c := filled(t, 3)
			getAll(t, c, 2, 0, 1)
			wantOK(t, "Flip", c.FS().Flip("f", 5, at, x))
			wantNotGot(t, c.Get, "f", 5, api.ErrPage)
			wantNotGot(t, c.Pin, "f", 5, api.ErrPage)
			wantNotGot(t, c.Get, "f", 5, api.ErrPage)
			wantThere(t, c, 0, 0, 1, 2)
			wantOK(t, "Flip", c.FS().Flip("f", 5, at, x))
			wantGot(t, c.Get, "f", 5, "f5")
			wantThere(t, c, 0, 0, 1, 5)
		}
	}
}

// P7.2: a page whose bytes are turned over behind its Get is told as it was, till it went.
func TestGetAheadOfDamage(t *testing.T) {
	c := filled(t, 2)
	getAll(t, c, 5)
	wantOK(t, "Flip", c.FS().Flip("f", 5, 3, 1))
	getAll(t, c, 5)
	pinAll(t, c, 5)
	getAll(t, c, 0, 1)
	getAll(t, c, 5)
	wantOK(t, "Unpin", c.Unpin("f", 5))
	getAll(t, c, 0, 1)
	wantNotGot(t, c.Get, "f", 5, api.ErrPage)
	wantThere(t, c, 0, 0, 1)
}

// P7.2: bytes of a file that are no page.
func TestGetOfNoPage(t *testing.T) {
	c := filled(t, 2)
	for seed, bytes := range []string{strings.Repeat("\x00", 128), strings.Repeat("\xff", 128), mixed(128, 1), mixed(128, 2), pageOf(t, "a")[1:] + "\x00"} {
		wantOK(t, "Put into the file", c.FS().Put("f", seed, bytes))
		wantNotGot(t, c.Get, "f", seed, api.ErrPage)
		wantNotGot(t, c.Pin, "f", seed, api.ErrPage)
		wantThere(t, c, 0)
	}
}

// P7.2, P7.3: what no file has.
func TestGetOfNothing(t *testing.T) {
	c := filled(t, 2)
	getAll(t, c, 0)
	for _, get := range []get{c.Get, c.Pin} {
		for _, i := range farPlaces() {
			wantNotGot(t, get, "f", i, api.ErrNone)
			wantNotGot(t, get, "x", i, api.ErrNone)
			wantNotGot(t, get, "", i, api.ErrNone)
		}
		for _, name := range append(noNames(), "x", "ff", "F") {
			wantNotGot(t, get, name, 0, api.ErrNone)
			wantErr(t, "Unpin", c.Unpin(name, 0), api.ErrNone)
		}
	}
	wantThere(t, c, 0, 0)
}

// P7.3: a page has as many pins as were set and not taken.
func TestPins(t *testing.T) {
	for many := 1; many < 6; many++ {
		c := filled(t, 1)
		for range many {
			pinAll(t, c, 0)
			wantThere(t, c, 1, 0)
		}
		for range many {
			wantThere(t, c, 1, 0)
			wantNotGot(t, c.Get, "f", 1, api.ErrPinned)
			wantOK(t, "Unpin", c.Unpin("f", 0))
		}
		wantThere(t, c, 0, 0)
		wantErr(t, "Unpin of no pins", c.Unpin("f", 0), api.ErrNone)
		wantErr(t, "Unpin of no pins", c.Unpin("f", 0), api.ErrNone)
		getAll(t, c, 1)
		wantThere(t, c, 0, 1)
		getAll(t, c, 0)
		wantErr(t, "Unpin of one that came again", c.Unpin("f", 0), api.ErrNone)
		pinAll(t, c, 0)
		wantOK(t, "Unpin", c.Unpin("f", 0))
		wantErr(t, "Unpin", c.Unpin("f", 0), api.ErrNone)
	}
}

// P7.3: a page that was got, or put, has no pins; one that is pinned then has one.
func TestPinOfWhatIsThere(t *testing.T) {
	c := filled(t, 3)
	getAll(t, c, 0)
	wantOK(t, "Put", c.Put("f", 1, "f1"))
	wantThere(t, c, 0, 0, 1)
	wantErr(t, "Unpin", c.Unpin("f", 0), api.ErrNone)
	wantErr(t, "Unpin", c.Unpin("f", 1), api.ErrNone)
	wantReads(t, "Pin", c.FS(), 0, func() { pinAll(t, c, 0, 1) })
	wantThere(t, c, 2, 0, 1)
	wantOK(t, "Unpin", c.Unpin("f", 0))
	wantThere(t, c, 1, 0, 1)
	getAll(t, c, 0, 1)
	wantThere(t, c, 1, 0, 1)
	wantOK(t, "Unpin", c.Unpin("f", 1))
	wantErr(t, "Unpin", c.Unpin("f", 1), api.ErrNone)
}

// P7.3: an Unpin of a page that is not there, whether its file has it or not.
func TestUnpinOfNothing(t *testing.T) {
	c := filled(t, 2)
	pinAll(t, c, 0)
	wantErr(t, "a page that is not there", c.Unpin("f", 1), api.ErrNone)
	wantErr(t, "another file's", c.Unpin("g", 0), api.ErrNone)
	wantErr(t, "no file's", c.Unpin("x", 0), api.ErrNone)
	for _, i := range farPlaces() {
		wantErr(t, "a place that may not be", c.Unpin("f", i), api.ErrNone)
	}
	wantThere(t, c, 1, 0)
}

// P7.2 to P7.4: all pages there have pins: others don't come, and no read is done; those that are there are told, pinned and put.
func TestAllPinned(t *testing.T) {
	for _, most := range []int{1, 2, 64} {
		c := filled(t, most)
		var all []int
		for i := range most {
			pinAll(t, c, i)
			all = append(all, i)
		}
		wantReads(t, "all pinned", c.FS(), 0, func() {
			for _, i := range append(farPlaces(), 64, 69) {
				wantNotGot(t, c.Get, "f", i, api.ErrPinned)
				wantNotGot(t, c.Pin, "f", i, api.ErrPinned)
				wantErr(t, "Put", c.Put("f", i, "x"), api.ErrPinned)
				wantErr(t, "Put of too much", c.Put("f", i, mixed(123, 0)), api.ErrLong)
			}
			for _, name := range append(noNames(), "x", "g") {
				wantNotGot(t, c.Get, name, 0, api.ErrPinned)
				wantNotGot(t, c.Pin, name, 0, api.ErrPinned)
				wantErr(t, "Put", c.Put(name, 0, "x"), api.ErrPinned)
				wantErr(t, "Put of too much", c.Put(name, 0, mixed(123, 0)), api.ErrLong)
			}
			getAll(t, c, all...)
			pinAll(t, c, most-1)
			wantOK(t, "Put", c.Put("f", most-1, "new"))
			wantGot(t, c.Get, "f", most-1, "new")
		})
		wantThere(t, c, most, all...)
		if n := c.FS().Pages("f"); n != 70 || c.FS().Used() != 240 || len(c.FS().Names()) != 3 {
			t.Errorf("the files: %d, %d, %q", n, c.FS().Used(), c.FS().Names())
		}
		wantInFile(t, c.FS(), "f", 69, "f69")
		wantOK(t, "Unpin", c.Unpin("f", most-1))
		wantNotGot(t, c.Get, "f", 69, api.ErrPinned)
		wantOK(t, "Unpin", c.Unpin("f", most-1))
		getAll(t, c, 69)
		wantThere(t, c, most-1, append(all[:most-1:most-1], 69)...)
	}
}

// P7.2: as many pins as there may be pages, of fewer pages, or of all but one, keep none away.
func TestManyPinsOfFewPages(t *testing.T) {
	c := filled(t, 3)
	pinAll(t, c, 0, 0, 0, 0, 1)
	getAll(t, c, 2, 3, 4)
	wantThere(t, c, 2, 0, 1, 4)
	pinAll(t, c, 4)
	wantNotGot(t, c.Get, "f", 5, api.ErrPinned)
	wantThere(t, c, 3, 0, 1, 4)
}

// P7.4: what is put is there, and in the file, and is got without a read.
func TestPut(t *testing.T) {
	for _, most := range []int{1, 2, 64} {
		c := filled(t, most)
		for i, data := range someData() {
			wantReads(t, "Put", c.FS(), 0, func() {
				wantOK(t, "Put", c.Put("f", i, data))
				wantGot(t, c.Get, "f", i, data)
			})
			wantInFile(t, c.FS(), "f", i, data)
			if !c.Has("f", i) || c.Len() != min(i+1, most) || c.Pinned() != 0 {
				t.Errorf("the page %d: %v, %d, %d", i, c.Has("f", i), c.Len(), c.Pinned())
			}
			wantErr(t, "Unpin", c.Unpin("f", i), api.ErrNone)
		}
		for i, data := range someData() {
			wantGot(t, c.Get, "f", i, data)
		}
		if n := c.FS().Pages("f"); n != 70 || c.FS().Used() != 240 {
			t.Errorf("the file has %d pages, all have %d", n, c.FS().Used())
		}
	}
}

// P7.4: a page that is there is put over and over, without room being made.
func TestPutOfWhatIsThere(t *testing.T) {
	c := filled(t, 2)
	getAll(t, c, 0, 1)
	for _, data := range someData() {
		for i := range 2 {
			wantOK(t, "Put", c.Put("f", i, data))
			wantThere(t, c, 0, 0, 1)
			wantGot(t, c.Get, "f", i, data)
			wantInFile(t, c.FS(), "f", i, data)
		}
	}
}

// P7.4: a page that is there keeps its pins when it is put; one that is not has none.
func TestPutKeepsPins(t *testing.T) {
	c := filled(t, 2)
	pinAll(t, c, 0, 0)
	wantOK(t, "Put", c.Put("f", 0, "new"))
	wantOK(t, "Put", c.Put("f", 1, "one"))
	wantThere(t, c, 1, 0, 1)
	getAll(t, c, 2, 3)
	wantThere(t, c, 1, 0, 3)
	wantGot(t, c.Get, "f", 0, "new")
	wantOK(t, "Unpin", c.Unpin("f", 0))
	wantOK(t, "Put", c.Put("f", 0, "newer"))
	wantThere(t, c, 1, 0, 3)
	wantOK(t, "Unpin", c.Unpin("f", 0))
	wantErr(t, "Unpin", c.Unpin("f", 0), api.ErrNone)
	wantThere(t, c, 0, 0, 3)
	wantGot(t, c.Get, "f", 1, "one")
	wantGot(t, c.Get, "f", 2, "f2")
	wantGot(t, c.Get, "f", 0, "newer")
}

// P7.4: the page just behind a file's last one, also of a file that is not there yet; not the one behind that.
func TestPutBehindTheLast(t *testing.T) {
	f := newFS(t, 9)
	c := newCache(t, f, 2)
	for i := range 5 {
		wantErr(t, "Put too far behind", c.Put("n", i+1, "x"), api.ErrArg)
		if c.Has("n", i+1) || f.Pages("n") != i {
			t.Errorf("%v, %d", c.Has("n", i+1), f.Pages("n"))
		}
		wantOK(t, "Put", c.Put("n", i, fmt.Sprint("n", i)))
		if !c.Has("n", i) || f.Pages("n") != i+1 || c.Len() != min(i+1, 2) {
			t.Errorf("%v, %d, %d", c.Has("n", i), f.Pages("n"), c.Len())
		}
	}
	for i := range 5 {
		wantInFile(t, f, "n", i, fmt.Sprint("n", i))
		wantGot(t, c.Get, "n", i, fmt.Sprint("n", i))
	}
}

// P7.4: data that is too long, for whatever page.
func TestPutOfTooMuch(t *testing.T) {
	c := filled(t, 3)
	getAll(t, c, 2, 0)
	pinAll(t, c, 1)
	for _, n := range []int{123, 124, 128, 256, 1 << 16, 1<<16 + 122} {
		for _, i := range append(farPlaces(), 0, 1, 5) {
			wantErr(t, "Put", c.Put("f", i, mixed(n, 0)), api.ErrLong)
		}
		for _, name := range noNames() {
			wantErr(t, "Put", c.Put(name, 0, mixed(n, 0)), api.ErrLong)
		}
	}
	wantThere(t, c, 1, 0, 1, 2)
	getAll(t, c, 2, 0, 1)
	wantInFile(t, c.FS(), "f", 0, "f0")
	wantInFile(t, c.FS(), "f", 5, "f5")
}

// P7.4: names and places that may not be.
func TestPutRefuses(t *testing.T) {
	c := filled(t, 3)
	getAll(t, c, 2, 0, 1)
	for _, i := range farPlaces() {
		if i != 70 {
			wantErr(t, "Put", c.Put("f", i, "x"), api.ErrArg)
		}
	}
	for _, i := range append(farPlaces(), 1) {
		wantErr(t, "Put of a new file", c.Put("x", i, "x"), api.ErrArg)
	}
	for _, name := range noNames() {
		for _, i := range append(farPlaces(), 0) {
			wantErr(t, "Put of no name", c.Put(name, i, "x"), api.ErrArg)
		}
	}
	wantThere(t, c, 0, 0, 1, 2)
	if l := c.FS().Names(); len(l) != 3 || c.FS().Used() != 240 {
		t.Errorf("the files are %q, of %d pages", l, c.FS().Used())
	}
	wantGo(t, c, 0, 2, 0, 1)
}

// P7.4: no room in the file system: pages that files have are put, others are not.
func TestPutWithoutRoom(t *testing.T) {
	f := newFS(t, 4)
	writeFile(t, f, "f", 3)
	writeFile(t, f, "z", 1)
	c := newCache(t, f, 2)
	getAll(t, c, 2, 0)
	wantErr(t, "Put", c.Put("f", 3, "x"), api.ErrRoom)
	wantErr(t, "Put of a new file", c.Put("x", 0, "x"), api.ErrRoom)
	wantErr(t, "Put too far behind", c.Put("f", 4, "x"), api.ErrArg)
	wantThere(t, c, 0, 0, 2)
	wantOK(t, "Put", c.Put("f", 1, "new"))
	wantThere(t, c, 0, 0, 1)
	wantGo(t, c, 0, 0)
}

// P7.4, R5: a page that is there, and can't be put, because its file was taken or cut: it stays as it was, with its pins, and that was no use.
func TestPutOfWhatIsThereAlone(t *testing.T) {
	f := newFS(t, 103)
	writeFile(t, f, "f", 3)
	writeFile(t, f, "z", 100)
	c := newCache(t, f, 3)
	getAll(t, c, 2, 0)
	pinAll(t, c, 1)
	writeFile(t, f, "f", 1)
	wantErr(t, "Put of a page too far behind", c.Put("f", 2, "new"), api.ErrArg)
	writeFile(t, f, "f", 2)
	wantOK(t, "Put", f.Put("x", 0, pageOf(t, "x")))
	wantErr(t, "Put without room", c.Put("f", 2, "new"), api.ErrRoom)
	wantOK(t, "Remove", f.Remove("f"))
	wantErr(t, "Put of a page of no file", c.Put("f", 1, "new"), api.ErrArg)
	wantThere(t, c, 1, 0, 1, 2)
	if f.Pages("f") != 0 {
		t.Errorf("the file has %d pages", f.Pages("f"))
	}
	wantOK(t, "Unpin", c.Unpin("f", 1))
	wantErr(t, "Unpin", c.Unpin("f", 1), api.ErrNone)
	wantGo(t, c, 0, 2, 0, 1)
}

// P7.4: a Put of a page of which what its file had was damaged: it is whole again.
func TestPutOverDamage(t *testing.T) {
	c := filled(t, 1)
	wantOK(t, "Flip", c.FS().Flip("f", 0, 3, 1))
	wantNotGot(t, c.Get, "f", 0, api.ErrPage)
	wantOK(t, "Put", c.Put("f", 0, "new"))
	getAll(t, c, 1)
	wantGot(t, c.Get, "f", 0, "new")
	wantOK(t, "Flip", c.FS().Flip("f", 0, 3, 1))
	wantOK(t, "Put", c.Put("f", 0, "newer"))
	getAll(t, c, 1)
	wantGot(t, c.Get, "f", 0, "newer")
}

// P7.4: a Put reads nothing: a read that is to fail is still to fail behind it.
func TestPutAheadOfAFailingRead(t *testing.T) {
	c := filled(t, 2)
	getAll(t, c, 0)
	wantOK(t, "Fail", c.FS().Fail(0))
	wantOK(t, "Put of one that is there", c.Put("f", 0, "new"))
	wantOK(t, "Put of one that is not", c.Put("f", 1, "new"))
	wantOK(t, "Put that makes room", c.Put("f", 2, "new"))
	wantNotGot(t, c.Get, "f", 0, api.ErrRead)
	wantThere(t, c, 0, 1, 2)
}

// P7.5: a dropped file has no page there, pins or not; others stay, also those whose names begin or end alike.
func TestDrop(t *testing.T) {
	f := newFS(t, 100)
	names := []string{"f", "ff", "fff", "F", "af", "fa", "f0"}
	for _, name := range names {
		writeFile(t, f, name, 3)
	}
	for _, gone := range append(noNames(), append(names, "x", "fffff")...) {
		c := newCache(t, f, 64)
		want, pinned := 0, 0
		for _, name := range names {
			wantGot(t, c.Get, name, 0, name+"0")
			wantGot(t, c.Pin, name, 1, name+"1")
			wantGot(t, c.Pin, name, 2, name+"2")
			wantGot(t, c.Pin, name, 2, name+"2")
			if name != gone {
				want, pinned = want+3, pinned+2
			}
		}
		for range 2 {
			c.Drop(gone)
			if c.Len() != want || c.Pinned() != pinned {
				t.Errorf("Drop of %.20q: %d, %d; not %d, %d", gone, c.Len(), c.Pinned(), want, pinned)
			}
		}
		for _, name := range names {
			for i := range 3 {
				if c.Has(name, i) == (name == gone) {
					t.Errorf("Drop of %.20q: %s, %d: %v", gone, name, i, c.Has(name, i))
				}
			}
		}
		if f.Used() != 21 {
			t.Errorf("the files have %d pages", f.Used())
		}
	}
}

// P7.5: pins are gone with a Drop; pages come again without any, and there is room for others.
func TestBehindDrop(t *testing.T) {
	c := filled(t, 2)
	pinAll(t, c, 0, 1, 1)
	wantNotGot(t, c.Get, "f", 2, api.ErrPinned)
	c.Drop("g")
	c.Drop("")
	wantThere(t, c, 2, 0, 1)
	wantReads(t, "Drop", c.FS(), 0, func() { c.Drop("f") })
	wantThere(t, c, 0)
	wantErr(t, "Unpin", c.Unpin("f", 1), api.ErrNone)
	wantReads(t, "Get", c.FS(), 3, func() { getAll(t, c, 0, 1, 2) })
	wantThere(t, c, 0, 1, 2)
	wantErr(t, "Unpin", c.Unpin("f", 1), api.ErrNone)
	c.Drop("f")
	c.Drop("f")
	wantThere(t, c, 0)
}

// P7.5: pages of other files go in their order, behind a Drop.
func TestDropKeepsTheOrder(t *testing.T) {
	c := filled(t, 5)
	getAll(t, c, 3)
	wantGot(t, c.Pin, "g", 0, "g0")
	getAll(t, c, 1)
	wantGot(t, c.Get, "g", 1, "g1")
	getAll(t, c, 2)
	c.Drop("g")
	wantThere(t, c, 0, 1, 2, 3)
	wantGot(t, c.Get, "z", 90, "z90")
	wantGot(t, c.Get, "z", 91, "z91")
	wantGo(t, c, 0, 3, 1, 2)
}

// P7.5: what is there no more by a Drop was put into its file ahead of it.
func TestDropLosesNothing(t *testing.T) {
	c := filled(t, 3)
	wantOK(t, "Put", c.Put("f", 0, "new"))
	pinAll(t, c, 1)
	wantOK(t, "Put", c.Put("f", 1, "newer"))
	c.Drop("f")
	wantGot(t, c.Get, "f", 0, "new")
	wantGot(t, c.Get, "f", 1, "newer")
}

// P7.5: a page that its file system's file lost is there still, till it is dropped.
func TestHasAsksTheCacheAlone(t *testing.T) {
	c := filled(t, 3)
	getAll(t, c, 0)
	for _, i := range farPlaces() {
		if c.Has("f", i) || c.Has("", i) {
			t.Errorf("Has of %d", i)
		}
	}
	for _, name := range append(noNames(), "g", "x", "F") {
		if c.Has(name, 0) {
			t.Errorf("Has of %.20q", name)
		}
	}
	wantOK(t, "Remove", c.FS().Remove("f"))
	wantThere(t, c, 0, 0)
	c.Drop("f")
	wantThere(t, c, 0)
	wantNotGot(t, c.Get, "f", 0, api.ErrNone)
}

// P7.6: a page with pins stays, with its data, whatever is got and put.
func TestPinnedStays(t *testing.T) {
	for _, most := range []int{2, 3, 64} {
		c := filled(t, most)
		pinAll(t, c, 0)
		wantReads(t, "what is got", c.FS(), 139, func() {
			for i := 1; i < 70; i++ {
				getAll(t, c, i)
				wantGot(t, c.Get, "g", i, fmt.Sprint("g", i))
				wantOK(t, "Put", c.Put("z", i, "z"))
				if !c.Has("f", 0) || c.Len() > most || c.Pinned() != 1 {
					t.Fatalf("%v, %d, %d", c.Has("f", 0), c.Len(), c.Pinned())
				}
			}
			c.Drop("g")
			c.Drop("z")
			getAll(t, c, 0)
			wantGot(t, c.Pin, "g", 0, "g0")
		})
		wantOK(t, "Unpin", c.Unpin("f", 0))
		for i := range 64 {
			wantOK(t, "Put", c.Put("z", i, "z"))
		}
		if c.Has("f", 0) || !c.Has("g", 0) || c.Len() != most {
			t.Errorf("%v, %v, %d", c.Has("f", 0), c.Has("g", 0), c.Len())
		}
	}
}

// P7.6: what is got is what the file has, where all is put by Put.
func TestWhatIsGotIsInTheFile(t *testing.T) {
	for _, most := range []int{1, 2, 7, 64} {
		c := filled(t, most)
		for k, b := range []byte(mixed(3000, most)) {
			i := int(b) % 70
			if b >= 140 {
				data := mixed(k%123, k)
				wantOK(t, "Put", c.Put("f", i, data))
			}
			data, e := c.Get("f", i)
			wantOK(t, "Get", e)
			wantInFile(t, c.FS(), "f", i, data)
			if c.Len() > most {
				t.Fatalf("%d pages are there", c.Len())
			}
		}
	}
}

// P7.1 to P7.5, R3: a cache that is nil, and one that New did not make.
func TestNone(t *testing.T) {
	for what, c := range map[string]*Cache{"nil": nil, "not made": {}, "new": new(Cache)} {
		for range 2 {
			for _, name := range append(noNames(), "f") {
				for _, i := range append(farPlaces(), 0) {
					wantNotGot(t, c.Get, name, i, api.ErrNil)
					wantNotGot(t, c.Pin, name, i, api.ErrNil)
					wantErr(t, what+": Unpin", c.Unpin(name, i), api.ErrNil)
					wantErr(t, what+": Put", c.Put(name, i, "x"), api.ErrNil)
					wantErr(t, what+": Put of too much", c.Put(name, i, mixed(123, 0)), api.ErrNil)
					if c.Has(name, i) {
						t.Errorf("%s: Has of %.20q, %d", what, name, i)
					}
				}
				c.Drop(name)
			}
			if c.FS() != nil || c.Len() != 0 || c.Pinned() != 0 {
				t.Errorf("%s: %v, %d, %d", what, c.FS(), c.Len(), c.Pinned())
			}
		}
	}
}

// R5: with an error nothing is changed: neither who is there, nor who goes next, nor pins, nor files.
func TestErrorsChangeNothing(t *testing.T) {
	long := mixed(123, 0)
	for what, act := range map[string]struct {
		do   func(c *Cache) api.Errno
		want api.Errno
	}{
		"Get of no page":               {func(c *Cache) api.Errno { _, e := c.Get("f", 70); return e }, api.ErrNone},
		"Get of no file":               {func(c *Cache) api.Errno { _, e := c.Get("x", 0); return e }, api.ErrNone},
		"Get of damage":                {func(c *Cache) api.Errno { _, e := c.Get("g", 0); return e }, api.ErrPage},
		"Get that fails":               {func(c *Cache) api.Errno { c.FS().Fail(0); _, e := c.Get("f", 9); return e }, api.ErrRead},
		"Get of damage that fails":     {func(c *Cache) api.Errno { c.FS().Fail(0); _, e := c.Get("g", 0); return e }, api.ErrRead},
		"Pin of no page":               {func(c *Cache) api.Errno { _, e := c.Pin("f", -1); return e }, api.ErrNone},
		"Pin of damage":                {func(c *Cache) api.Errno { _, e := c.Pin("g", 0); return e }, api.ErrPage},
		"Pin that fails":               {func(c *Cache) api.Errno { c.FS().Fail(0); _, e := c.Pin("f", 9); return e }, api.ErrRead},
		"Unpin of one that is there":   {func(c *Cache) api.Errno { return c.Unpin("f", 2) }, api.ErrNone},
		"Unpin of one that is not":     {func(c *Cache) api.Errno { return c.Unpin("f", 9) }, api.ErrNone},
		"Put of too much":              {func(c *Cache) api.Errno { return c.Put("f", 2, long) }, api.ErrLong},
		"Put of too much, not there":   {func(c *Cache) api.Errno { return c.Put("f", 9, long) }, api.ErrLong},
		"Put of too much, with pins":   {func(c *Cache) api.Errno { return c.Put("f", 1, long) }, api.ErrLong},
		"Put of too much, of no name":  {func(c *Cache) api.Errno { return c.Put("", -1, long) }, api.ErrLong},
		"Put of no name":               {func(c *Cache) api.Errno { return c.Put("", 0, "x") }, api.ErrArg},
		"Put of no place":              {func(c *Cache) api.Errno { return c.Put("f", 71, "x") }, api.ErrArg},
		"Put of a place below 0":       {func(c *Cache) api.Errno { return c.Put("f", -1, "x") }, api.ErrArg},
		"Put without room":             {func(c *Cache) api.Errno { return c.Put("f", 70, "x") }, api.ErrRoom},
		"Put of a file without room":   {func(c *Cache) api.Errno { return c.Put("x", 0, "x") }, api.ErrRoom},
		"Put behind a file, room none": {func(c *Cache) api.Errno { return c.Put("x", 1, "x") }, api.ErrArg},
	} {
		c := filled(t, 4)
		writeFile(t, c.FS(), "y", 60)
		wantOK(t, "Flip", c.FS().Flip("g", 0, 9, 9))
		getAll(t, c, 2)
		pinAll(t, c, 1)
		getAll(t, c, 0, 3)
		for range 3 {
			wantErr(t, what, act.do(c), act.want)
			wantThere(t, c, 1, 0, 1, 2, 3)
		}
		if l := c.FS().Names(); !slices.Equal(l, []string{"f", "g", "y", "z"}) || c.FS().Used() != 300 {
			t.Errorf("%s: %q, %d pages", what, l, c.FS().Used())
		}
		for i := range 70 {
			wantInFile(t, c.FS(), "f", i, fmt.Sprint("f", i))
		}
		wantOK(t, "Unpin", c.Unpin("f", 1))
		wantErr(t, "Unpin", c.Unpin("f", 1), api.ErrNone)
		wantGo(t, c, 0, 2, 1, 0, 3)
	}
}

// R5: where more than one error holds: pins ahead of the read, the read ahead of the page's bytes; what is not there ahead of a read that fails.
func TestTheFirstErrorIsTold(t *testing.T) {
	c := filled(t, 1)
	wantOK(t, "Flip", c.FS().Flip("f", 5, 9, 9))
	pinAll(t, c, 0)
	wantOK(t, "Fail", c.FS().Fail(0))
	for _, get := range []get{c.Get, c.Pin} {
		wantNotGot(t, get, "f", 5, api.ErrPinned)
		wantNotGot(t, get, "f", 70, api.ErrPinned)
		wantNotGot(t, get, "", -1, api.ErrPinned)
	}
	wantOK(t, "Unpin", c.Unpin("f", 0))
	for _, get := range []get{c.Get, c.Pin} {
		wantNotGot(t, get, "f", 70, api.ErrNone)
		wantNotGot(t, get, "", -1, api.ErrNone)
		wantNotGot(t, get, "f", 5, api.ErrRead)
		wantNotGot(t, get, "f", 5, api.ErrPage)
		wantOK(t, "Fail", c.FS().Fail(0))
	}
	wantThere(t, c, 0, 0)
	wantNotGot(t, c.Get, "f", 1, api.ErrRead)
	getAll(t, c, 1)
}

// R4: texts that were handed in are not kept: a name, and data, may be pieces of long texts.
func TestTextsAreCopied(t *testing.T) {
	c := filled(t, 3)
	text := mixed(100, 0)
	names := "fgz"
	wantOK(t, "Put", c.Put(names[:1], 0, text[:50]))
	wantOK(t, "Put", c.Put(names[:1], 0, text[50:]))
	wantGot(t, c.Get, names[1:2], 0, "g0")
	wantGot(t, c.Pin, names[2:], 0, "z0")
	wantOK(t, "Put", c.Put(names[2:], 0, text[:50]))
	for at, page := range c.there {
		if unsafe.StringData(at.name) == unsafe.StringData(names[strings.Index(names, at.name):]) {
			t.Errorf("the name %s is kept as it was handed in", at.name)
		}
		if p := unsafe.StringData(page.data); p == unsafe.StringData(text) || p == unsafe.StringData(text[50:]) {
			t.Errorf("the data of %s is kept as it was handed in", at.name)
		}
	}
}

// plain is what a cache is to do, as one list of pages, the one first that was used the longest time ago, over a file system of its own.
type plain struct {
	fs   *files.FS
	most int
	l    []plainPage
}

type plainPage struct {
	name string
	i    int
	data string
	pins int
}

// take tells the page, out of the list.
func (p *plain) take(name string, i int) (plainPage, bool) {
	k := slices.IndexFunc(p.l, func(x plainPage) bool { return x.name == name && x.i == i })
	if k < 0 {
		return plainPage{}, false
	}
	x := p.l[k]
	p.l = slices.Delete(p.l, k, k+1)
	return x, true
}

// first tells where the first page without pins stands; below 0, if there is none.
func (p *plain) first() int {
	return slices.IndexFunc(p.l, func(x plainPage) bool { return x.pins == 0 })
}

func (p *plain) stuck() bool {
	return len(p.l) == p.most && p.first() < 0
}

// come lays the page behind all others.
func (p *plain) come(x plainPage) {
	if len(p.l) == p.most {
		k := p.first()
		p.l = slices.Delete(p.l, k, k+1)
	}
	p.l = append(p.l, x)
}

func (p *plain) get(name string, i, pins int) (string, api.Errno) {
	x, ok := p.take(name, i)
	if !ok {
		if p.stuck() {
			return "", api.ErrPinned
		}
		page, e := p.fs.Read(name, i)
		if e != api.OK {
			return "", e
		}
		data, e := pages.Decode(page)
		if e != api.OK {
			return "", e
		}
		x = plainPage{name, i, data, 0}
	}
	x.pins += pins
	p.come(x)
	return x.data, api.OK
}

func (p *plain) unpin(name string, i int) api.Errno {
	for k, x := range p.l {
		if x.name == name && x.i == i && x.pins > 0 {
			p.l[k].pins--
			return api.OK
		}
	}
	return api.ErrNone
}

func (p *plain) put(name string, i int, data string) api.Errno {
	if len(data) > 122 {
		return api.ErrLong
	}
	page, _ := pages.Encode(data)
	if !p.has(name, i) && p.stuck() {
		return api.ErrPinned
	}
	if e := p.fs.Put(name, i, page); e != api.OK {
		return e
	}
	x, _ := p.take(name, i)
	p.come(plainPage{name, i, data, x.pins})
	return api.OK
}

func (p *plain) drop(name string) {
	p.l = slices.DeleteFunc(p.l, func(x plainPage) bool { return x.name == name })
}

func (p *plain) has(name string, i int) bool {
	return slices.ContainsFunc(p.l, func(x plainPage) bool { return x.name == name && x.i == i })
}

func (p *plain) pinned() int {
	many := 0
	for _, x := range p.l {
		if x.pins > 0 {
			many++
		}
	}
	return many
}

func pick[T any](b byte, l ...T) T {
	return l[int(b)%len(l)]
}

// act does one act with both, and fails if they tell different things. It tells what was told.
func act(t *testing.T, c *Cache, p *plain, a [4]byte) string {
	t.Helper()
	name := pick(a[1], "a", "ab", "b", "a", "ab", "b", "a", "ab", "b", "", "too long name")
	i := pick(a[2], 0, 1, 2, 3, 4, 0, 1, 2, 3, 4, 5, -1, math.MaxInt, math.MinInt)
	data := mixed(pick(a[3], 0, 1, 2, 50, 121, 122, 122, 123), int(a[3])/8)
	var told, want string
	var e, wantE api.Errno
	switch a[0] % 24 {
	case 0, 1, 2, 3, 4, 5:
		told, e = c.Get(name, i)
		want, wantE = p.get(name, i, 0)
	case 6, 7, 8, 9:
		told, e = c.Pin(name, i)
		want, wantE = p.get(name, i, 1)
	case 10, 11, 12, 13:
		e, wantE = c.Unpin(name, i), p.unpin(name, i)
	case 14, 15, 16, 17, 18, 19:
		e, wantE = c.Put(name, i, data), p.put(name, i, data)
	case 20:
		if a[3] < 64 {
			c.Drop(name)
			p.drop(name)
		}
	case 21:
		n := int(a[3]) % 6
		e, wantE = c.FS().Fail(n), p.fs.Fail(n)
	case 22:
		at := int(a[3]) % 128
		e, wantE = c.FS().Flip(name, i, at, 1), p.fs.Flip(name, i, at, 1)
	case 23:
		if a[3] < 64 {
			e, wantE = c.FS().Remove(name), p.fs.Remove(name)
		}
	}
	if told != want || e != wantE {
		t.Errorf("the act %d, %q, %d: %.20q, %v; not %.20q, %v", a, name, i, told, e, want, wantE)
	}
	return fmt.Sprintf("%q %d; ", told, e)
}

// wantSame fails if other pages are there than in the plain list, or if files are not the same.
func wantSame(t *testing.T, c *Cache, p *plain) string {
	t.Helper()
	if c.Len() != len(p.l) || c.Len() > p.most || c.Pinned() != p.pinned() {
		t.Errorf("Len, Pinned: %d, %d; not %d, %d", c.Len(), c.Pinned(), len(p.l), p.pinned())
	}
	var there strings.Builder
	for _, name := range []string{"a", "ab", "b", ""} {
		for i := -1; i < 7; i++ {
			if c.Has(name, i) != p.has(name, i) {
				t.Errorf("Has(%q, %d): %v", name, i, c.Has(name, i))
			}
			fmt.Fprint(&there, c.Has(name, i))
		}
		if c.FS().Pages(name) != p.fs.Pages(name) {
			t.Errorf("the file %q has %d pages", name, c.FS().Pages(name))
		}
	}
	return there.String()
}

// sameActs does acts with a cache and a plain list, as data says, and fails if they tell different things. It tells all that was told.
func sameActs(t *testing.T, most int, data string) string {
	t.Helper()
	c := newCache(t, newFS(t, 12), most)
	p := &plain{newFS(t, 12), most, nil}
	var all strings.Builder
	for k := 0; k+4 <= len(data) && !t.Failed(); k += 4 {
		all.WriteString(act(t, c, p, [4]byte([]byte(data[k:]))))
		all.WriteString(wantSame(t, c, p))
	}
	for _, name := range p.fs.Names() {
		for i := range p.fs.Pages(name) {
			page, e := c.FS().Read(name, i)
			if want, wantE := p.fs.Read(name, i); page != want || e != wantE {
				t.Errorf("the file's page %s, %d is another one: %v, %v", name, i, e, wantE)
			}
		}
	}
	return all.String()
}

// P7.1 to P7.6: whatever is done, a cache tells what one plain list of pages tells.
func TestActsAsAPlainList(t *testing.T) {
	for seed := range 300 {
		sameActs(t, pick(byte(seed), 1, 2, 3, 4, 5, 8, 64), mixed(4*400, seed))
	}
}

// R2: what is done twice tells the same, whatever order the map has.
func TestTheSameAgain(t *testing.T) {
	for seed := range 20 {
		data := mixed(4*300, 1000+seed)
		if sameActs(t, 3, data) != sameActs(t, 3, data) {
			t.Errorf("the seed %d tells something else", seed)
		}
	}
}

func FuzzActs(f *testing.F) {
	for seed := range 10 {
		f.Add(1+seed, mixed(100*seed, seed))
	}
	f.Fuzz(func(t *testing.T, most int, data string) {
		sameActs(t, min(max(most, 1), 64), data)
	})
}
