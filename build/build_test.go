package build

import (
	"encoding/binary"
	"fmt"
	"hash/crc32"
	"maps"
	"math"
	"math/big"
	"math/bits"
	"math/rand/v2"
	"slices"
	"strings"
	"testing"

	"carousel/api"
	"carousel/cache"
	"carousel/files"
	"carousel/shards"
)

// otherNames are names of files that no graph has.
var otherNames = []string{"s", "S0", "s00", "s01", "s16", "s17", "s99", "s-1", "s+1", "s0x", "xs0", "s1.", "M", "mm", "m0", "m1", "ms", "sm", "0", "a", "!", "~~~~~~~~", "s1000000"}

// noFiles are texts that are no file's name, or that of none.
var noFiles = []string{"", "x", "s", "m ", " m", "S1", "s16", "m\x00", "\xff", "ninebytes", strings.Repeat("m", 1000), "é", "s1\n"}

// farNumbers are such as far from those that may be as there are.
var farNumbers = []int{-1, -2, -256, -1 << 32, math.MinInt + 1, math.MinInt, 257, 258, 512, 4096, 1 << 16, 1 << 32, 1<<32 + 1, math.MaxInt - 1, math.MaxInt}

func list(ends ...int) []api.Edge {
	var l []api.Edge
	for k := 0; k < len(ends); k += 2 {
		l = append(l, api.Edge{From: ends[k], To: ends[k+1]})
	}
	return l
}

// mixed are so many unlike edges of n vertices, in no order, other ones for each seed.
func mixed(n, many, seed int) []api.Edge {
	r := rand.New(rand.NewPCG(12, uint64(seed)))
	var l []api.Edge
	for _, k := range r.Perm(n * (n - 1))[:many] {
		from, to := k/(n-1), k%(n-1)
		if to >= from {
			to++
		}
		l = append(l, api.Edge{From: from, To: to})
	}
	return l
}

// star are edges from one of n vertices to all others.
func star(n, from int) []api.Edge {
	var l []api.Edge
	for to := range n {
		if to != from {
			l = append(l, api.Edge{From: from, To: to})
		}
	}
	return l
}

// ring are edges from each of n vertices to the next one.
func ring(n int) []api.Edge {
	var l []api.Edge
	for v := range n {
		l = append(l, api.Edge{From: v, To: (v + 1) % n})
	}
	return l
}

// asked is what Build is asked for.
type asked struct {
	n int
	l []api.Edge
	s int
}

func (a asked) String() string {
	return fmt.Sprintf("%d vertices, %d edges, in %d: %.60v", a.n, len(a.l), a.s, a.l)
}

// few are graphs of all kinds: few vertices and all of them, one part and 16, no edges and as many as there may be, edges twice and in any order, shards that are alike and unlike.
func few() []asked {
	twice := append(mixed(40, 900, 1), mixed(40, 900, 1)...)
	rand.New(rand.NewPCG(12, 12)).Shuffle(len(twice), func(i, j int) { twice[i], twice[j] = twice[j], twice[i] })
	return []asked{
		{4, list(0, 1, 3, 0), 2},
		{1, nil, 1}, {1, []api.Edge{}, 1}, {2, nil, 1}, {2, list(1, 0), 2}, {2, list(1, 0, 0, 1, 1, 0), 1}, {2, list(1, 0, 0, 1, 1, 0), 2},
		{3, list(0, 1, 1, 2, 2, 0), 3}, {3, list(2, 1, 2, 1, 0, 2, 2, 0, 0, 2, 2, 1), 2},
		{10, ring(10), 3}, {16, ring(16), 16}, {17, ring(17), 16}, {15, nil, 15},
		{256, nil, 1}, {256, []api.Edge{}, 16}, {256, ring(256), 1}, {256, ring(256), 16}, {256, ring(256), 7},
		{256, star(256, 0), 16}, {256, star(256, 255), 16}, {256, star(256, 100), 3},
		{256, mixed(256, 4096, 2), 1}, {256, mixed(256, 4096, 3), 16}, {65, mixed(65, 4096, 4), 16}, {65, mixed(65, 4096, 4), 1}, {64, mixed(64, 4032, 5), 5},
		{40, twice, 4}, {200, append(append(star(200, 3), mixed(200, 50, 6)...), star(200, 190)...), 11}, {100, append(mixed(100, 4096, 7), mixed(100, 4096, 7)...), 9},
	}
}

// sealedByHand tells a text with its sum behind it.
func sealedByHand(text string) string {
	return string(binary.LittleEndian.AppendUint32([]byte(text), crc32.ChecksumIEEE([]byte(text))))
}

// number tells the bytes of one number.
func number(n int) string {
	return string(binary.AppendUvarint(nil, uint64(n)))
}

// gapped tells the bytes of numbers that rise.
func gapped(l []int) string {
	s, ahead := number(len(l)), -1
	for _, n := range l {
		s += number(n - ahead - 1)
		ahead = n
	}
	return s
}

// packedByHand tells numbers that stand side by side in one great number, from its end on.
func packedByHand(l []int) string {
	width := bits.Len(uint(slices.Max(l)))
	all := new(big.Int)
	for i, n := range l {
		all.Add(all, new(big.Int).Lsh(big.NewInt(int64(n)), uint(width*i)))
	}
	b := all.FillBytes(make([]byte, (width*len(l)+7)/8))
	slices.Reverse(b)
	return string([]byte{byte(width)}) + string(b)
}

// leads tells of a list of edges where it leads: of each vertex, whether it does to each other one.
func leads(l []api.Edge) *[256][256]bool {
	var to [256][256]bool
	for _, edge := range l {
		to[edge.From][edge.To] = true
	}
	return &to
}

// shardByHand tells the bytes of the shard of the vertices from one on, ahead of another one.
func shardByHand(to *[256][256]bool, from, ahead int) string {
	var degrees []int
	lists, many := "", 0
	for v := from; v < ahead; v++ {
		var l []int
		for end := range 256 {
			if to[v][end] {
				l = append(l, end)
			}
		}
		degrees = append(degrees, len(l))
		lists += gapped(l)
		many += len(l)
	}
	return sealedByHand("sh" + number(from) + number(ahead) + packedByHand(degrees) + lists + number(many))
}

// graphByHand tells the graph that is asked for, and the data of its files, by names.
func graphByHand(a asked) (api.Graph, map[string]string) {
	to := leads(a.l)
	g := api.Graph{Vertices: a.n}
	for _, row := range to {
		for _, there := range row {
			if there {
				g.Edges++
			}
		}
	}
	data := map[string]string{}
	for k := range a.s {
		part := api.Part{From: k * a.n / a.s, To: (k + 1) * a.n / a.s}
		g.Parts = append(g.Parts, part)
		data[fmt.Sprint("s", k)] = shardByHand(to, part.From, part.To)
	}
	data["m"] = manifestByHand(g)
	return g, data
}

// manifestByHand tells the graph's bytes.
func manifestByHand(g api.Graph) string {
	var ends []int
	for _, part := range g.Parts {
		ends = append(ends, part.To)
	}
	return sealedByHand("car" + number(g.Vertices) + number(g.Edges) + gapped(ends))
}

// pageByHand tells the page of data.
func pageByHand(data string) string {
	return sealedByHand(string([]byte{0, byte(len(data))}) + data + strings.Repeat("\x00", 122-len(data)))
}

// pagesByHand tells the pages into which data is parted.
func pagesByHand(data string) []string {
	var l []string
	for len(data) > 122 {
		l = append(l, pageByHand(data[:122]))
		data = data[122:]
	}
	return append(l, pageByHand(data))
}

// ofData tells the files that have these data.
func ofData(data map[string]string) map[string][]string {
	all := map[string][]string{}
	for name, text := range data {
		all[name] = pagesByHand(text)
	}
	return all
}

// filesByHand tells the files of the graph that is asked for.
func filesByHand(a asked) map[string][]string {
	_, data := graphByHand(a)
	return ofData(data)
}

// inOrder tells the names of the files of a graph, as they are written.
func inOrder(shards int) []string {
	var l []string
	for k := range shards {
		l = append(l, fmt.Sprint("s", k))
	}
	return append(l, "m")
}

// pagesOf tells how many pages all these files have.
func pagesOf(all map[string][]string) int {
	many := 0
	for _, l := range all {
		many += len(l)
	}
	return many
}

// written tells those of the files of a graph of so many shards that are written where there is room for so many pages.
func written(all map[string][]string, shards, room int) map[string][]string {
	got := map[string][]string{}
	for _, name := range inOrder(shards) {
		room -= len(all[name])
		if room < 0 {
			return got
		}
		got[name] = all[name]
	}
	return got
}

// both tells all files of two.
func both(a, b map[string][]string) map[string][]string {
	all := maps.Clone(a)
	maps.Copy(all, b)
	return all
}

// others are files of names that no graph has, all of them of unlike pages.
func others() map[string][]string {
	all := map[string][]string{}
	for i, name := range otherNames {
		all[name] = []string{strings.Repeat(string(rune('a'+i)), 128)}
	}
	all["a"] = append(all["a"], strings.Repeat("\xff", 128), pageByHand("ab"))
	return all
}

// stored tells all files that f has. No read of f is to fail.
func stored(t *testing.T, f *files.FS) map[string][]string {
	t.Helper()
	all := map[string][]string{}
	for _, name := range f.Names() {
		for i := range f.Pages(name) {
			page, e := f.Read(name, i)
			if e != api.OK {
				t.Fatalf("Read of %s, %d: %v", name, i, e)
			}
			all[name] = append(all[name], page)
		}
	}
	return all
}

func wantFiles(t *testing.T, f *files.FS, want map[string][]string) {
	t.Helper()
	got := stored(t, f)
	if !slices.Equal(f.Names(), slices.Sorted(maps.Keys(want))) {
		t.Errorf("the files %v, not %v", f.Names(), slices.Sorted(maps.Keys(want)))
	}
	for name, l := range want {
		if !slices.Equal(got[name], l) {
			t.Errorf("%s has %d pages, not %d, or others: %.300q", name, len(got[name]), len(l), got[name])
		}
	}
}

func wantErr(t *testing.T, what any, e, want api.Errno) {
	t.Helper()
	if e != want {
		t.Errorf("%.100v: %v, not %v", what, e, want)
	}
}

func wantOK(t *testing.T, what any, e api.Errno) {
	t.Helper()
	wantErr(t, what, e, api.OK)
}

func newFS(t *testing.T, room int) *files.FS {
	t.Helper()
	f, e := files.New(room)
	if f == nil || e != api.OK {
		t.Fatalf("files.New(%d): %v, %v", room, f, e)
	}
	return f
}

func newCache(t *testing.T, f *files.FS, most int) *cache.Cache {
	t.Helper()
	c, e := cache.New(f, most)
	if c == nil || e != api.OK {
		t.Fatalf("cache.New(%d): %v, %v", most, c, e)
	}
	return c
}

// filled is a file system with room for so many pages that has these files.
func filled(t *testing.T, room int, all map[string][]string) *files.FS {
	t.Helper()
	f := newFS(t, room)
	for name, l := range all {
		wantOK(t, "Write of "+name, f.Write(name, l))
	}
	return f
}

func equal(a, b api.Graph) bool {
	return a.Vertices == b.Vertices && a.Edges == b.Edges && slices.Equal(a.Parts, b.Parts)
}

func isZero(g api.Graph) bool {
	return g.Vertices == 0 && g.Edges == 0 && g.Parts == nil
}

// wantBuilt builds, and fails if another graph is told than the one by hand.
func wantBuilt(t *testing.T, f *files.FS, a asked) {
	t.Helper()
	want, _ := graphByHand(a)
	if g, e := Build(f, a.n, a.l, a.s); e != api.OK || !equal(g, want) {
		t.Errorf("Build of %v: %v, %v; not %v, OK", a, g, e, want)
	}
}

// wantNotBuilt builds, and fails if another error is told, or anything beside it.
func wantNotBuilt(t *testing.T, f *files.FS, a asked, want api.Errno) {
	t.Helper()
	if g, e := Build(f, a.n, a.l, a.s); e != want || !isZero(g) {
		t.Errorf("Build of %v: %v, %v; not nothing, %v", a, g, e, want)
	}
}

func wantData(t *testing.T, c *cache.Cache, name, want string) {
	t.Helper()
	if s, e := File(c, name); e != api.OK || s != want {
		t.Errorf("File of %s: %d bytes, %v; not %d, OK: %.40q, %.40q", name, len(s), e, len(want), s, want)
	}
}

func wantNoData(t *testing.T, c *cache.Cache, name string, want api.Errno) {
	t.Helper()
	if s, e := File(c, name); e != want || s != "" {
		t.Errorf("File of %.20q: %.40q, %v; not nothing, %v", name, s, e, want)
	}
}

func wantOpened(t *testing.T, c *cache.Cache, want api.Graph) {
	t.Helper()
	if g, e := Open(c); e != api.OK || !equal(g, want) {
		t.Errorf("Open: %v, %v; not %v, OK", g, e, want)
	}
}

func wantNotOpened(t *testing.T, c *cache.Cache, want api.Errno) {
	t.Helper()
	if g, e := Open(c); e != want || !isZero(g) {
		t.Errorf("Open: %v, %v; not nothing, %v", g, e, want)
	}
}

// takePins tells how many pins the page has, and takes them all.
func takePins(c *cache.Cache, name string, i int) int {
	many := 0
	for c.Unpin(name, i) == api.OK {
		many++
	}
	return many
}

// wantPins fails if the file's pages have other pins than these. It takes them all.
func wantPins(t *testing.T, c *cache.Cache, name string, want ...int) {
	t.Helper()
	for i, many := range want {
		if got := takePins(c, name, i); got != many {
			t.Errorf("the page %d of %s has %d pins, not %d", i, name, got, many)
		}
	}
}

// pin pins each page of the file so many times.
func pin(t *testing.T, c *cache.Cache, name string, many ...int) {
	t.Helper()
	for i, n := range many {
		for range n {
			if _, e := c.Pin(name, i); e != api.OK {
				t.Fatalf("Pin of %s, %d: %v", name, i, e)
			}
		}
	}
}

// The document's examples.
func TestExamples(t *testing.T) {
	f := newFS(t, 20)
	c := newCache(t, f, 2)
	g, e := Build(f, 4, list(0, 1, 3, 0), 2)
	want := api.Graph{Vertices: 4, Edges: 2, Parts: []api.Part{{From: 0, To: 2}, {From: 2, To: 4}}}
	if e != api.OK || !equal(g, want) {
		t.Error(g, e)
	}
	if l := f.Names(); !slices.Equal(l, []string{"m", "s0", "s1"}) {
		t.Error(l)
	}
	wantOpened(t, c, want)
	s, e := File(c, "s1")
	if e != api.OK {
		t.Error(e)
	}
	shard, e := shards.Decode(s)
	if l := shards.Edges(shard); e != api.OK || !slices.Equal(l, list(3, 0)) {
		t.Error(l, e)
	}
	wantNoData(t, c, "x", api.ErrNone)
	wantNotBuilt(t, f, asked{4, list(1, 1), 2}, api.ErrArg)
	wantNotBuilt(t, newFS(t, 1), asked{4, nil, 2}, api.ErrRoom)
}

// P12.1
func TestName(t *testing.T) {
	want := []string{"s0", "s1", "s2", "s3", "s4", "s5", "s6", "s7", "s8", "s9", "s10", "s11", "s12", "s13", "s14", "s15"}
	for k, name := range want {
		if got := Name(k); got != name {
			t.Errorf("Name(%d): %q, not %q", k, got, name)
		}
		if !files.Name(Name(k)) {
			t.Errorf("Name(%d) is no name of a file", k)
		}
	}
}

// P12.1
func TestNameOfNoShard(t *testing.T) {
	for _, k := range append([]int{16, 17, 20, 99, 100, 255, 256, 1<<32 + 15, -15, -16, -1<<63 + 15}, farNumbers...) {
		if got := Name(k); got != "" {
			t.Errorf("Name(%d): %q", k, got)
		}
	}
}

// P12.2, P12.4: the graph that is told, and the bytes of all files, held against bytes made by hand; then they are read.
func TestBuild(t *testing.T) {
	for _, a := range few() {
		f := newFS(t, 4096)
		wantBuilt(t, f, a)
		wantFiles(t, f, filesByHand(a))
		wantRead(t, f, a)
	}
}

// wantRead fails if a graph that was built is not opened, or its files have other data than those by hand, in caches of one page and of many.
func wantRead(t *testing.T, f *files.FS, a asked) {
	t.Helper()
	g, data := graphByHand(a)
	for _, most := range []int{1, 2, 64} {
		c := newCache(t, f, most)
		wantOpened(t, c, g)
		for k := range a.s {
			wantData(t, c, Name(k), data[Name(k)])
		}
		wantData(t, c, "m", data["m"])
		wantNoData(t, c, Name(a.s), api.ErrNone)
		if c.Pinned() != 0 {
			t.Errorf("%d pages have pins", c.Pinned())
		}
	}
}

// P12.2, P12.4: graphs of all numbers of vertices, in all numbers of parts.
func TestBuildOfAllSizes(t *testing.T) {
	f := newFS(t, 4096)
	for n := 1; n <= 256; n++ {
		l := mixed(n, min(n*(n-1), 2*n), n)
		for s := 1; s <= min(n, 16); s++ {
			a := asked{n, l[:min(len(l), n/2+n*s/10)], s}
			wantBuilt(t, f, a)
			wantFiles(t, f, filesByHand(a))
			g, _ := graphByHand(a)
			wantOpened(t, newCache(t, f, 1), g)
		}
	}
}

// P12.4: the shards' files have the shards, whose edges are those that were handed in, rising, each once.
func TestShardsHaveTheEdges(t *testing.T) {
	for _, a := range few() {
		f := newFS(t, 4096)
		wantBuilt(t, f, a)
		c := newCache(t, f, 3)
		var got []api.Edge
		for k := range a.s {
			s, e := File(c, Name(k))
			wantOK(t, a, e)
			shard, e := shards.Decode(s)
			wantOK(t, a, e)
			got = append(got, shards.Edges(shard)...)
		}
		var want []api.Edge
		for from, row := range leads(a.l) {
			for to, there := range row {
				if there {
					want = append(want, api.Edge{From: from, To: to})
				}
			}
		}
		if !slices.Equal(got, want) {
			t.Errorf("%v: %.100v, not %.100v", a, got, want)
		}
	}
}

// P12.2: lists of the same edges, in other orders, and with edges twice, have the same files; so has a list that is nil and an empty one.
func TestSameEdgesHaveSameFiles(t *testing.T) {
	r := rand.New(rand.NewPCG(12, 1))
	for _, a := range few() {
		want := filesByHand(a)
		for range 5 {
			l := slices.Clone(a.l)
			for range min(len(l), 30) {
				l = append(l, l[r.IntN(len(l))])
			}
			r.Shuffle(len(l), func(i, j int) { l[i], l[j] = l[j], l[i] })
			f := newFS(t, 4096)
			wantBuilt(t, f, asked{a.n, l, a.s})
			wantFiles(t, f, want)
		}
	}
	for _, l := range [][]api.Edge{nil, {}, make([]api.Edge, 0, 10), list(1, 1, 5, 5)[:0]} {
		f := newFS(t, 4096)
		wantBuilt(t, f, asked{9, l, 4})
		wantFiles(t, f, filesByHand(asked{9, nil, 4}))
	}
}

// P12.2: where there is room for all pages but some, those files are left that were written ahead of the first one for which there is none; no file behind that one is, not even where there is room for it.
func TestBuildInAllRooms(t *testing.T) {
	for _, a := range few() {
		want := filesByHand(a)
		all := pagesOf(want)
		for room := 1; room <= all+2; room++ {
			f := newFS(t, room)
			if room >= all {
				wantBuilt(t, f, a)
			} else {
				wantNotBuilt(t, f, a, api.ErrRoom)
				wantNotOpened(t, newCache(t, f, 2), api.ErrNone)
			}
			wantFiles(t, f, written(want, a.s, room))
		}
	}
}

// P12.2: the same beside files of other names, which take room, and stay. Where they take all, no file is written.
func TestBuildBesideOtherFiles(t *testing.T) {
	beside := others()
	for _, a := range few() {
		want := filesByHand(a)
		all := pagesOf(want)
		for _, room := range []int{0, 1, 2, all / 2, all - 1, all, all + 1} {
			f := filled(t, room+pagesOf(beside), beside)
			if room >= all {
				wantBuilt(t, f, a)
			} else {
				wantNotBuilt(t, f, a, api.ErrRoom)
			}
			wantFiles(t, f, both(beside, written(want, a.s, room)))
		}
	}
}

// unlikeFiles tells a graph, and how many pages each of its files has: long ones ahead of short ones, and the other way about.
func unlikeFiles() (asked, []int) {
	l := append(mixed(60, 5, 8), star(256, 100)...)
	for from := 86; from < 90; from++ {
		l = append(l, star(256, from)...)
	}
	l = append(append(l, star(256, 3)...), star(256, 255)...)
	return asked{256, l, 4}, []int{4, 12, 1, 4, 1}
}

// P12.2: the error comes at each of the files, the manifest among them; a shorter file behind one for which there is no room is not written.
func TestErrorAtEachFile(t *testing.T) {
	a, sizes := unlikeFiles()
	want := filesByHand(a)
	room := 0
	for k, name := range inOrder(a.s) {
		if len(want[name]) != sizes[k] {
			t.Errorf("%s has %d pages, not %d", name, len(want[name]), sizes[k])
		}
		if less := room + sizes[k] - 1; less > 0 {
			f := newFS(t, less)
			wantNotBuilt(t, f, a, api.ErrRoom)
			if names := f.Names(); !slices.Equal(names, inOrder(a.s)[:k]) {
				t.Errorf("where %s has no room: %v", name, names)
			}
		}
		room += sizes[k]
	}
}

// P12.2, P12.4: a graph built over another one, a greater or lesser one, of more or fewer shards: nothing of that is left, nor does it take room, and files of other names stay. Where there is no room, the other one is gone all the same.
func TestBuiltAnew(t *testing.T) {
	beside := others()
	all := few()
	for i, first := range all {
		for k := range 6 {
			then := all[(i+1+5*k)%len(all)]
			want := filesByHand(then)
			room := max(pagesOf(filesByHand(first)), pagesOf(want))
			f := filled(t, room+pagesOf(beside), beside)
			wantBuilt(t, f, first)
			wantBuilt(t, f, then)
			wantFiles(t, f, both(beside, want))
			wantRead(t, f, then)
		}
	}
	for _, then := range all {
		want := filesByHand(then)
		room := pagesOf(want) - 1
		f := filled(t, room, map[string][]string{"m": {pageByHand("")}})
		wantNotBuilt(t, f, then, api.ErrRoom)
		wantFiles(t, f, written(want, then.s, room))
	}
}

// P12.2: m, and s0 to s15, are gone, whichever of them are there, and whatever they have.
func TestAnyFilesOfThoseNamesGo(t *testing.T) {
	names := inOrder(16)
	beside := others()
	for set := range 1 << len(names) {
		if set%41 != 0 && bits.OnesCount(uint(set)) > 1 && bits.OnesCount(uint(^set&(1<<17-1))) > 1 {
			continue
		}
		old := map[string][]string{}
		for i, name := range names {
			if set>>i&1 == 1 {
				old[name] = slices.Repeat([]string{strings.Repeat("?", 128)}, 1+i%3)
			}
		}
		a := asked{5, list(0, 4, 3, 0), 1 + set%3}
		f := filled(t, 200, both(beside, old))
		wantBuilt(t, f, a)
		wantFiles(t, f, both(beside, filesByHand(a)))

		full := both(beside, old)
		full["full"] = slices.Repeat([]string{strings.Repeat("!", 128)}, 200-pagesOf(full))
		f = filled(t, 200, full)
		wantFull(t, f, a, both(beside, map[string][]string{"full": full["full"]}), pagesOf(old))
	}
}

// wantFull builds where there is room for so many pages beside those of others, once all that a graph may have is gone.
func wantFull(t *testing.T, f *files.FS, a asked, beside map[string][]string, room int) {
	t.Helper()
	want := filesByHand(a)
	if room >= pagesOf(want) {
		wantBuilt(t, f, a)
	} else {
		wantNotBuilt(t, f, a, api.ErrRoom)
	}
	wantFiles(t, f, both(beside, written(want, a.s, room)))
}

// P12.2: Build reads nothing: a read that is to fail does so behind it still.
func TestBuildReadsNothing(t *testing.T) {
	f := newFS(t, 100)
	wantBuilt(t, f, asked{9, ring(9), 9})
	for n := range 3 {
		wantOK(t, "Fail", f.Fail(n))
		wantBuilt(t, f, asked{9, ring(9), 3})
		wantNotBuilt(t, f, asked{9, ring(9), 10}, api.ErrArg)
		wantNotBuilt(t, nil, asked{9, ring(9), 10}, api.ErrNil)
		for i := range n + 3 {
			_, e := f.Read("m", 0)
			if failed := e == api.ErrRead; failed != (i == n) {
				t.Errorf("Fail of %d: the read %d told %v", n, i, e)
			}
		}
	}
}

// refused is what Build may not be asked for, and the error of it.
type refused struct {
	asked
	want api.Errno
}

// wrongEdges are lists that no graph of n vertices has, one edge of which is wrong: the only one, the first one, the last one, one of many.
func wrongEdges(n int) [][]api.Edge {
	var wrong []api.Edge
	for _, v := range []int{n, n + 1, 300, -1, -n, math.MinInt, math.MaxInt, 1 << 32, -1 << 32} {
		wrong = append(wrong, list(v, 0, 0, v, v, v)...)
	}
	for v := range n {
		wrong = append(wrong, list(v, v)...)
	}
	var all [][]api.Edge
	for _, edge := range wrong {
		all = append(all, []api.Edge{edge})
		if n > 1 {
			l := ring(n)
			all = append(all, append([]api.Edge{edge}, l...), append(l, edge), slices.Insert(ring(n), n/2, edge))
		}
	}
	return all
}

// refusals are askings that Build refuses, of all kinds.
func refusals() []refused {
	long := mixed(65, 4097, 1)
	longer := append(long, mixed(65, 4160, 2)...)
	all := []refused{
		{asked{65, long, 1}, api.ErrLong}, {asked{65, long, 16}, api.ErrLong}, {asked{65, longer, 3}, api.ErrLong}, {asked{256, mixed(256, 256*255, 3), 4}, api.ErrLong},
		// Normal's error is told ahead of Cut's, and of these two ErrArg of the list ahead of ErrLong of it.
		{asked{65, long, 0}, api.ErrLong}, {asked{65, long, 66}, api.ErrLong}, {asked{65, long, math.MinInt}, api.ErrLong}, {asked{65, longer, -1}, api.ErrLong},
		{asked{64, long, 1}, api.ErrArg}, {asked{65, append(slices.Clone(long), list(1, 1)...), 1}, api.ErrArg}, {asked{257, long, 1}, api.ErrArg}, {asked{0, long, 0}, api.ErrArg},
		{asked{0, nil, 0}, api.ErrArg}, {asked{0, nil, 1}, api.ErrArg}, {asked{2, list(0, 1), 3}, api.ErrArg}, {asked{1, nil, 2}, api.ErrArg}, {asked{15, nil, 16}, api.ErrArg},
	}
	for _, far := range append([]int{0}, farNumbers...) {
		all = append(all,
			refused{asked{far, nil, 1}, api.ErrArg}, refused{asked{far, list(0, 1), 1}, api.ErrArg}, refused{asked{far, nil, far}, api.ErrArg}, refused{asked{far, nil, 16}, api.ErrArg},
			refused{asked{1, nil, far}, api.ErrArg}, refused{asked{10, ring(10), far}, api.ErrArg}, refused{asked{256, nil, far}, api.ErrArg},
		)
	}
	for n := 1; n <= 256; n++ {
		all = append(all, refused{asked{n, nil, min(n, 16) + 1}, api.ErrArg}, refused{asked{n, nil, 0}, api.ErrArg}, refused{asked{n, nil, -1}, api.ErrArg}, refused{asked{n, nil, 17}, api.ErrArg})
	}
	for _, n := range []int{1, 2, 3, 16, 100, 255, 256} {
		for _, l := range wrongEdges(n) {
			all = append(all, refused{asked{n, l, 1}, api.ErrArg}, refused{asked{n, l, 17}, api.ErrArg})
		}
	}
	return all
}

// P12.2, R5: what may not be is refused, and the files stay as they were.
func TestBuildRefuses(t *testing.T) {
	was := both(others(), both(filesByHand(asked{20, ring(20), 16}), map[string][]string{"s3": {strings.Repeat("?", 128)}}))
	f := filled(t, 200, was)
	for _, r := range refusals() {
		wantNotBuilt(t, f, r.asked, r.want)
		if f.Used() != pagesOf(was) {
			t.Fatalf("%v: there are %d pages", r.asked, f.Used())
		}
	}
	wantFiles(t, f, was)
	empty := newFS(t, 200)
	for _, r := range refusals() {
		wantNotBuilt(t, empty, r.asked, r.want)
	}
	wantFiles(t, empty, nil)
}

// P12.2, R3: of a file system that is none ErrNil is told, whatever else there is to refuse.
func TestBuildOverNone(t *testing.T) {
	var unmade files.FS
	for _, f := range []*files.FS{nil, new(files.FS), {}, &unmade} {
		for _, r := range append(refusals()[:200], refused{asked{4, list(0, 1), 2}, api.OK}, refused{asked{1, nil, 1}, api.OK}) {
			wantNotBuilt(t, f, r.asked, api.ErrNil)
		}
		if f.Used() != 0 || f.Names() != nil {
			t.Error(f.Used(), f.Names())
		}
	}
}

// R4: the edges that are handed in stay as they were, also those behind the list's end; nor are they looked at later.
func TestEdgesStay(t *testing.T) {
	for _, a := range few() {
		whole := append(slices.Clone(a.l), list(7, 7, -1, 300, 0, 1)...)
		was := slices.Clone(whole)
		f := newFS(t, 4096)
		wantBuilt(t, f, asked{a.n, whole[:len(a.l)], a.s})
		wantNotBuilt(t, f, asked{a.n, whole, a.s}, api.ErrArg)
		wantNotBuilt(t, f, asked{a.n, whole[:len(a.l)], 17}, api.ErrArg)
		if !slices.Equal(whole, was) {
			t.Errorf("%v: what was handed in is another list", a)
		}
		clear(whole)
		wantFiles(t, f, filesByHand(a))
	}
}

// R4: what is told is the caller's own: whatever is done with it, the graph is opened as it was.
func TestToldIsNew(t *testing.T) {
	a := asked{10, ring(10), 3}
	want, _ := graphByHand(a)
	f := newFS(t, 100)
	c := newCache(t, f, 2)
	spoil := func(g api.Graph) {
		l := g.Parts[:cap(g.Parts)]
		for k := range l {
			l[k] = api.Part{From: -1, To: -2}
		}
	}
	for range 3 {
		g, e := Build(f, a.n, a.l, a.s)
		h, e2 := Build(newFS(t, 100), a.n, a.l, a.s)
		if e != api.OK || e2 != api.OK || !equal(g, want) || !equal(h, want) {
			t.Error(g, e, h, e2)
		}
		spoil(g)
		if !equal(h, want) {
			t.Error("two graphs share their parts")
		}
		wantFiles(t, f, filesByHand(a))
		o, e := Open(c)
		p, e2 := Open(c)
		if e != api.OK || e2 != api.OK || !equal(o, want) {
			t.Error(o, e, e2)
		}
		spoil(o)
		if !equal(p, want) {
			t.Error("two graphs share their parts")
		}
	}
}

// P0.6: what is done twice tells the same.
func TestTheSameAgain(t *testing.T) {
	a, b := newFS(t, 4096), newFS(t, 4096)
	for _, x := range few() {
		g, e := Build(a, x.n, x.l, x.s)
		h, f := Build(b, x.n, x.l, x.s)
		if e != f || !equal(g, h) {
			t.Error(x, g, e, h, f)
		}
		wantFiles(t, b, stored(t, a))
	}
}

// text is n bytes that have no order, another one for each seed.
func text(n, seed int) string {
	r := rand.New(rand.NewPCG(13, uint64(seed)))
	b := make([]byte, n)
	for i := range b {
		b[i] = byte(r.Uint32())
	}
	return string(b)
}

// P12.3: data of all sizes up to five pages, and some more, through caches of one page, of as many as the file has, of more.
func TestFile(t *testing.T) {
	sizes := []int{1000, 1219, 1220, 1221, 122 * 63, 122*64 - 1, 122 * 64, 122*64 + 1, 122 * 65, 30000}
	for n := range 5*122 + 2 {
		sizes = append(sizes, n)
	}
	for _, n := range sizes {
		data := text(n, n)
		f := filled(t, 600, ofData(map[string]string{"x": data, "xx": data + "!", "y": "other"}))
		for _, most := range []int{1, 2, 5, 64} {
			c := newCache(t, f, most)
			wantData(t, c, "x", data)
			wantData(t, c, "x", data)
			wantData(t, c, "xx", data+"!")
			wantData(t, c, "x", data)
			if c.Pinned() != 0 {
				t.Errorf("%d bytes: %d pages have pins", n, c.Pinned())
			}
		}
	}
}

// P12.3: just those bytes, whichever they are.
func TestFileOfAnyBytes(t *testing.T) {
	all := ""
	for b := range 256 {
		all += string([]byte{byte(b)})
	}
	for i, data := range []string{strings.Repeat("\x00", 122), strings.Repeat("\x00", 123), strings.Repeat("\xff", 500), "\x00", all, "héé\n", all + all + "\x00"} {
		f := filled(t, 10, ofData(map[string]string{"!~": data}))
		c := newCache(t, f, 1+i%3)
		wantData(t, c, "!~", data)
	}
}

// P12.3: files of all names, in one cache, are not taken for one another.
func TestFilesOfAllNames(t *testing.T) {
	data := map[string]string{}
	for i, name := range append(inOrder(16), otherNames...) {
		data[name] = text(100*(i%4), i)
	}
	f := filled(t, 300, ofData(data))
	for _, most := range []int{1, 7, 64} {
		c := newCache(t, f, most)
		for range 2 {
			for name, want := range data {
				wantData(t, c, name, want)
			}
		}
	}
}

// ofSizes tells pages whose data have so many bytes, and what the data is, if it is a file's.
func ofSizes(sizes ...int) (l []string, data string, ok bool) {
	ok = true
	for i, n := range sizes {
		part := text(n, 1000*i+n)
		l = append(l, pageByHand(part))
		data += part
		last := i == len(sizes)-1
		if !last && n != 122 || last && i > 0 && n == 0 {
			ok = false
		}
	}
	return l, data, ok
}

// allSizes hands each list of so many of these sizes to do.
func allSizes(many int, sizes []int, do func(l []int), ahead ...int) {
	if many == 0 {
		do(ahead)
		return
	}
	for _, n := range sizes {
		allSizes(many-1, sizes, do, append(slices.Clone(ahead), n)...)
	}
}

// P12.3: pages of unlike sizes: one that is short ahead of the last one, a last one of no bytes that is not the only one.
func TestPagesOfUnlikeSizes(t *testing.T) {
	for many := 1; many <= 4; many++ {
		allSizes(many, []int{0, 1, 60, 121, 122}, func(sizes []int) {
			l, data, ok := ofSizes(sizes...)
			f := filled(t, 4, map[string][]string{"x": l})
			for _, most := range []int{1, 3, 4} {
				c := newCache(t, f, most)
				for range 2 {
					if ok {
						wantData(t, c, "x", data)
					} else {
						wantNoData(t, c, "x", api.ErrPage)
					}
				}
				if c.Pinned() != 0 {
					t.Errorf("%v: %d pages have pins", sizes, c.Pinned())
				}
			}
		})
	}
}

// P12.3: a short page at each place of a long file.
func TestOneShortPage(t *testing.T) {
	for at := range 9 {
		for _, n := range []int{0, 1, 2, 119, 120, 121} {
			sizes := slices.Repeat([]int{122}, 9)
			sizes[at] = n
			l, data, ok := ofSizes(sizes...)
			c := newCache(t, filled(t, 9, map[string][]string{"x": l}), 2)
			if ok != (at == 8 && n > 0) {
				t.Fatal(sizes, ok)
			}
			if ok {
				wantData(t, c, "x", data)
			} else {
				wantNoData(t, c, "x", api.ErrPage)
			}
		}
	}
}

// P12.3: there is no such file: it never was, was removed, or was written anew without pages, though pages of it may be in the cache.
func TestNoSuchFile(t *testing.T) {
	f := filled(t, 20, ofData(map[string]string{"a": text(300, 1), "m": "ab", "s1": text(122, 2)}))
	c := newCache(t, f, 8)
	noFile := func() {
		for _, name := range noFiles {
			if f.Pages(name) == 0 {
				wantNoData(t, c, name, api.ErrNone)
			}
		}
	}
	noFile()
	if c.Len() != 0 {
		t.Errorf("%d pages are there", c.Len())
	}
	wantData(t, c, "a", text(300, 1))
	pin(t, c, "a", 1, 0, 2)
	wantOK(t, "Write", f.Write("a", nil))
	wantNoData(t, c, "a", api.ErrNone)
	wantData(t, c, "m", "ab")
	wantOK(t, "Remove", f.Remove("m"))
	wantNoData(t, c, "m", api.ErrNone)
	wantNotOpened(t, c, api.ErrNone)
	wantOK(t, "Write", f.Write("s1", []string{}))
	wantNoData(t, c, "s1", api.ErrNone)
	noFile()
	if c.Len() != 4 || c.Pinned() != 2 {
		t.Errorf("%d pages are there, %d have pins", c.Len(), c.Pinned())
	}
	wantPins(t, c, "a", 1, 0, 2)
}

// P12.3: a file that grew, by Put, has its new pages; one that was written anew has as many as it has now.
func TestFileHasWhatItHasNow(t *testing.T) {
	f := newFS(t, 20)
	c := newCache(t, f, 4)
	want := ""
	for i := range 8 {
		part := text(122, i)
		wantOK(t, "Put", c.Put("x", i, part))
		want += part
		wantData(t, c, "x", want)
		wantOK(t, "Put", c.Put("x", i, part[:50]))
		wantData(t, c, "x", want[:len(want)-72])
		wantOK(t, "Put", c.Put("x", i, part))
	}
	for n := 8; n > 0; n-- {
		wantOK(t, "Write", f.Write("x", pagesByHand(want[:122*n])))
		wantData(t, c, "x", want[:122*n])
	}
	c.Drop("x")
	wantOK(t, "Write", f.Write("x", pagesByHand("short")))
	wantData(t, c, "x", "short")
}

// P12.3, R3: of a cache that is none ErrNil is told, whatever the name.
func TestCacheThatIsNone(t *testing.T) {
	var unmade cache.Cache
	for _, c := range []*cache.Cache{nil, new(cache.Cache), {}, &unmade} {
		for _, name := range append([]string{"m", "s0", "a"}, noFiles...) {
			wantNoData(t, c, name, api.ErrNil)
		}
		wantNotOpened(t, c, api.ErrNil)
	}
}

// P12.3: a cache that cache.New made is one, even over a file system that files.New did not make: that has no files.
func TestCacheOverNone(t *testing.T) {
	c := newCache(t, new(files.FS), 3)
	for _, name := range append([]string{"m", "s0", "a"}, noFiles...) {
		wantNoData(t, c, name, api.ErrNone)
	}
	wantNotOpened(t, c, api.ErrNone)
}

// P12.3: a page of which any byte was turned is told as ErrPage; turned back, it is read.
func TestSpoiltPages(t *testing.T) {
	data := text(300, 1)
	f := filled(t, 3, ofData(map[string]string{"m": data}))
	for i := range 3 {
		for at := range 128 {
			for _, x := range []byte{1, 128, 255} {
				wantOK(t, "Flip", f.Flip("m", i, at, x))
				c := newCache(t, f, 1+at%4)
				wantNoData(t, c, "m", api.ErrPage)
				wantNotOpened(t, c, api.ErrPage)
				if c.Pinned() != 0 || c.Len() > i {
					t.Errorf("%d pages have pins, %d are there", c.Pinned(), c.Len())
				}
				wantOK(t, "Flip", f.Flip("m", i, at, x))
				wantData(t, c, "m", data)
			}
		}
	}
}

// P12.3: the read of each page fails once, and what comes then is read.
func TestFailingReads(t *testing.T) {
	data := text(1200, 1)
	f := filled(t, 10, ofData(map[string]string{"x": data}))
	for _, most := range []int{1, 5, 10} {
		for n := range 10 {
			c := newCache(t, f, most)
			wantOK(t, "Fail", f.Fail(n))
			wantNoData(t, c, "x", api.ErrRead)
			if c.Pinned() != 0 || c.Len() != min(n, most) {
				t.Errorf("Fail of %d: %d pages have pins, %d are there", n, c.Pinned(), c.Len())
			}
			wantData(t, c, "x", data)
		}
		c := newCache(t, f, most)
		wantOK(t, "Fail", f.Fail(10))
		wantData(t, c, "x", data)
		_, e := f.Read("x", 0)
		wantErr(t, "the read behind all pages", e, api.ErrRead)
	}
}

// P12.3: the error of the first page of which there is one is told, and no page behind it is read.
func TestTheFirstErrorOfPages(t *testing.T) {
	for first := range 5 {
		f := filled(t, 5, ofData(map[string]string{"x": text(600, 1)}))
		for i := first; i < 5; i++ {
			wantOK(t, "Flip", f.Flip("x", i, 60, 4))
		}
		wantOK(t, "Fail", f.Fail(first+1))
		wantNoData(t, newCache(t, f, 8), "x", api.ErrPage)
		_, e := f.Read("x", 4)
		wantErr(t, "the read behind", e, api.ErrRead)

		wantOK(t, "Fail", f.Fail(first))
		wantNoData(t, newCache(t, f, 8), "x", api.ErrRead)
	}
}

// P12.3, R5: an error that c.Pin tells is told ahead of a short page, even of one ahead of it.
func TestErrorsOfPagesAheadOfTheirSizes(t *testing.T) {
	l, _, _ := ofSizes(5, 122, 0, 122, 0)
	f := filled(t, 5, map[string][]string{"m": l})
	for n := range 5 {
		c := newCache(t, f, 2)
		wantOK(t, "Fail", f.Fail(n))
		wantNoData(t, c, "m", api.ErrRead)
		wantNoData(t, c, "m", api.ErrPage)
		wantOK(t, "Fail", f.Fail(n))
		wantNotOpened(t, newCache(t, f, 2), api.ErrRead)
	}
	c := newCache(t, f, 2)
	pin(t, c, "m", 1, 1)
	wantNoData(t, c, "m", api.ErrPinned)
	wantNotOpened(t, c, api.ErrPinned)
	wantPins(t, c, "m", 1, 1)
}

// P12.3: a page that is there is told as the cache has it, without a read.
func TestPagesThatAreThere(t *testing.T) {
	data := text(250, 1)
	f := filled(t, 3, ofData(map[string]string{"x": data}))
	c := newCache(t, f, 3)
	wantData(t, c, "x", data)
	wantOK(t, "Flip", f.Flip("x", 1, 7, 7))
	wantOK(t, "Fail", f.Fail(0))
	wantData(t, c, "x", data)
	_, e := f.Read("x", 0)
	wantErr(t, "the read behind", e, api.ErrRead)
	c.Drop("x")
	wantNoData(t, c, "x", api.ErrPage)
}

// P12.3: pages are pinned one by one, and each one is unpinned as soon as it was read: of a long file the last pages are there behind it, as many as may be, and go in the order in which they were read.
func TestPagesAreUnpinnedOneByOne(t *testing.T) {
	data := text(122*20, 1)
	f := filled(t, 40, ofData(map[string]string{"x": data, "y": text(122*10, 2)}))
	for most := 1; most <= 10; most++ {
		c := newCache(t, f, most)
		wantData(t, c, "x", data)
		for i := range 20 {
			if has := i >= 20-most; c.Has("x", i) != has {
				t.Errorf("at most %d: the page %d: %v", most, i, !has)
			}
		}
		for k := range most {
			if _, e := c.Get("y", k); e != api.OK || c.Has("x", 20-most+k) {
				t.Errorf("at most %d: the page %d did not go: %v", most, 20-most+k, e)
			}
		}
	}
}

// P12.3, P12.4: with all sets of pages of a file that are pinned, once or more times, beside those of another one: each call leaves the pins that there were.
func TestPinnedPages(t *testing.T) {
	data := text(122*4, 1)
	for most := 1; most <= 5; most++ {
		for set := range 1 << 5 {
			pins := []int{set & 1, set >> 1 & 1 * 2, set >> 2 & 1, set >> 3 & 1 * 3}
			other := set >> 4 & 1
			if bits.OnesCount(uint(set)) > most {
				continue
			}
			f := filled(t, 5, ofData(map[string]string{"x": data, "y": "other"}))
			c := newCache(t, f, most)
			pin(t, c, "y", other)
			pin(t, c, "x", pins...)
			for range 2 {
				if bits.OnesCount(uint(set)) == most && set&15 != 15 {
					wantNoData(t, c, "x", api.ErrPinned)
				} else {
					wantData(t, c, "x", data)
				}
				if n := c.Pinned(); n != bits.OnesCount(uint(set)) {
					t.Errorf("%d of %d pages have pins, not %b", n, most, set)
				}
			}
			wantPins(t, c, "x", pins...)
			wantPins(t, c, "y", other)
			wantData(t, c, "x", data)
		}
	}
}

// P12.4: each call leaves as many pins as there were, whatever it tells.
func TestCallsLeavePins(t *testing.T) {
	bad, _, _ := ofSizes(122, 3, 122)
	a := asked{10, ring(10), 3}
	f := filled(t, 50, map[string][]string{"bad": bad, "long": pagesByHand(text(1000, 1)), "spoilt": pagesByHand(text(400, 2))})
	wantBuilt(t, f, a)
	wantOK(t, "Flip", f.Flip("spoilt", 2, 9, 9))
	g, _ := graphByHand(a)
	for most := 4; most <= 12; most++ {
		c := newCache(t, f, most)
		pin(t, c, "m", 2)
		pin(t, c, "bad", 1, 0, 1)
		wantNoData(t, c, "bad", api.ErrPage)
		wantData(t, c, "long", text(1000, 1))
		wantNoData(t, c, "spoilt", api.ErrPage)
		wantNoData(t, c, "none", api.ErrNone)
		wantOpened(t, c, g)
		wantOK(t, "Fail", f.Fail(0))
		c.Drop("long")
		wantNoData(t, c, "long", api.ErrRead)
		if c.Pinned() != 3 {
			t.Errorf("%d pages have pins", c.Pinned())
		}
		wantPins(t, c, "m", 2)
		wantPins(t, c, "bad", 1, 0, 1)
		wantPins(t, c, "long", 0, 0, 0, 0, 0, 0, 0, 0, 0)
		wantPins(t, c, "spoilt", 0, 0, 0, 0)
	}
}

// P12.3: m that is no graph's bytes, or a graph's that are cut off, or have some more behind them, is refused as manifest.Decode does.
func TestOpenOfNoGraph(t *testing.T) {
	_, data := graphByHand(asked{200, ring(200), 16})
	graph := data["m"]
	var wrong []string
	for n := range len(graph) {
		wrong = append(wrong, graph[:n], graph[n+1:])
	}
	wrong = append(wrong, graph+"\x00", graph+graph, graph+text(200, 1), "\x00"+graph, data["s0"], text(len(graph), 2), text(122, 3), text(123, 4), strings.Repeat("car", 200))
	for i := range len(graph) {
		b := []byte(graph)
		b[i] ^= 1 << (i % 8)
		wrong = append(wrong, string(b))
	}
	for _, s := range wrong {
		c := newCache(t, filled(t, 100, ofData(map[string]string{"m": s, "s0": graph})), 2)
		wantNotOpened(t, c, api.ErrForm)
		wantNotOpened(t, c, api.ErrForm)
		if c.Pinned() != 0 {
			t.Errorf("%d pages have pins", c.Pinned())
		}
	}
}

// P12.3: m alone is asked for: a graph is opened whose shards are not there, or are another one's, and none is whose m is not there.
func TestOpenAsksForTheManifestAlone(t *testing.T) {
	a := asked{9, ring(9), 4}
	g, data := graphByHand(a)
	wantOpened(t, newCache(t, filled(t, 9, ofData(map[string]string{"m": data["m"]})), 1), g)
	wantOpened(t, newCache(t, filled(t, 9, ofData(map[string]string{"m": data["m"], "s0": "x", "s7": "y"})), 1), g)
	f := newFS(t, 20)
	wantBuilt(t, f, a)
	wantOK(t, "Remove", f.Remove("m"))
	wantNotOpened(t, newCache(t, f, 2), api.ErrNone)
	wantNotOpened(t, newCache(t, filled(t, 9, ofData(map[string]string{"M": data["m"], "m0": data["m"], "s0": data["m"]})), 1), api.ErrNone)
}

// P12.3: Open of m whose pages are none of data, can't be read, or find no room.
func TestOpenTellsFilesErrors(t *testing.T) {
	_, data := graphByHand(asked{9, ring(9), 4})
	m := data["m"]
	for _, l := range [][]string{{pageByHand(m), pageByHand("")}, {pageByHand(m), pageByHand(m)}, {pageByHand(""), pageByHand(m)}, {pageByHand(m[:5]), pageByHand(m[5:])}, {strings.Repeat("\x00", 128)}} {
		wantNotOpened(t, newCache(t, filled(t, 3, map[string][]string{"m": l}), 2), api.ErrPage)
	}
	f := filled(t, 3, ofData(map[string]string{"m": m, "x": "x"}))
	wantOK(t, "Fail", f.Fail(0))
	c := newCache(t, f, 1)
	wantNotOpened(t, c, api.ErrRead)
	pin(t, c, "x", 2)
	wantNotOpened(t, c, api.ErrPinned)
	wantPins(t, c, "x", 2)
	g, _ := graphByHand(asked{9, ring(9), 4})
	pin(t, c, "m", 1)
	wantOpened(t, c, g)
	wantPins(t, c, "m", 1)
}

// P12.2, P12.4: what was built anew is opened through a cache that has none of it, and through one out of which it was dropped.
func TestDroppedIsReadAnew(t *testing.T) {
	f := newFS(t, 200)
	c := newCache(t, f, 8)
	for _, a := range []asked{{10, ring(10), 3}, {12, mixed(12, 100, 1), 2}, {256, nil, 16}, {1, nil, 1}} {
		wantBuilt(t, f, a)
		for _, name := range inOrder(16) {
			c.Drop(name)
		}
		g, data := graphByHand(a)
		wantOpened(t, c, g)
		for k := range a.s {
			wantData(t, c, Name(k), data[Name(k)])
		}
	}
}

// world is a file system and a cache over it. The same is done in two of them: in the one Build, File and Open are asked, in the other all is done by hand, page by page, as the document says. What is told, what is there, and in which order it goes, is to be the same in both.
type world struct {
	f *files.FS
	c *cache.Cache
}

// filePageByPage does what the document says of File.
func filePageByPage(c *cache.Cache, name string) (string, api.Errno) {
	if c.FS().Pages(name) == 0 {
		return "", api.ErrNone
	}
	all, sizes := "", []int{}
	for i := range c.FS().Pages(name) {
		data, e := c.Pin(name, i)
		if e != api.OK {
			return "", e
		}
		c.Unpin(name, i)
		all += data
		sizes = append(sizes, len(data))
	}
	last := len(sizes) - 1
	for i, n := range sizes {
		if i < last && n < 122 || i == last && i > 0 && n == 0 {
			return "", api.ErrPage
		}
	}
	return all, api.OK
}

// buildByHand does what the document says of Build, of what it may be asked for.
func buildByHand(f *files.FS, a asked) (api.Graph, api.Errno) {
	g, data := graphByHand(a)
	for _, name := range inOrder(16) {
		f.Remove(name)
	}
	for _, name := range inOrder(a.s) {
		if e := f.Write(name, pagesByHand(data[name])); e != api.OK {
			return api.Graph{}, e
		}
	}
	return g, api.OK
}

func pick[T any](b byte, l ...T) T {
	return l[int(b)%len(l)]
}

// act does one thing in both worlds, and tells of it.
func act(t *testing.T, one, two world, a [4]byte) string {
	t.Helper()
	name := pick(a[1], "m", "s0", "s1", "x", "y", "")
	i, n := int(a[2]%4), int(a[3])
	switch a[0] % 12 {
	case 0, 1, 2, 3:
		s, e := File(one.c, name)
		if s2, e2 := filePageByPage(two.c, name); s != s2 || e != e2 {
			t.Errorf("File of %s: %.40q, %v; not %.40q, %v", name, s, e, s2, e2)
		}
		return fmt.Sprint(len(s), e)
	case 4:
		g, e := Open(one.c)
		s, e2 := filePageByPage(two.c, "m")
		if e2 == api.OK && sealedByHand(s[:max(0, len(s)-4)]) != s {
			e2 = api.ErrForm
		}
		if e != e2 || e == api.OK && manifestByHand(g) != s || e != api.OK && !isZero(g) {
			t.Errorf("Open: %v, %v; not %v", g, e, e2)
		}
		return fmt.Sprint(g, e)
	case 5:
		x := asked{2 + i, mixed(2+i, min(n, (2+i)*(1+i)), n), 1 + n%2}
		if a[3]%5 == 0 {
			x = asked{60, mixed(60, 10*n, n), 1 + n%2}
		}
		g, e := Build(one.f, x.n, x.l, x.s)
		if h, e2 := buildByHand(two.f, x); e != e2 || !equal(g, h) {
			t.Errorf("Build of %v: %v, %v; not %v, %v", x, g, e, h, e2)
		}
		return fmt.Sprint(g, e)
	}
	done := ""
	for _, w := range []world{one, two} {
		switch a[0] % 12 {
		case 6:
			w.c.Pin(name, i)
		case 7:
			w.c.Unpin(name, i)
		case 8:
			w.f.Fail(i)
		case 9:
			w.f.Flip(name, i, n%128, byte(1+n))
		case 10:
			l, _, _ := ofSizes([]int{122, 122, n % 123, 122, 50}[i : i+n%(6-i)]...)
			done = fmt.Sprint(w.f.Write(name, l))
		default:
			w.c.Drop(name)
		}
	}
	return done
}

// wantSameWorlds fails if other pages are there, other ones have pins, or other ones go first.
func wantSameWorlds(t *testing.T, one, two world) {
	t.Helper()
	same := func() {
		t.Helper()
		if one.c.Len() != two.c.Len() || one.c.Pinned() != two.c.Pinned() {
			t.Errorf("%d pages are there, not %d; %d have pins, not %d", one.c.Len(), two.c.Len(), one.c.Pinned(), two.c.Pinned())
		}
		for _, name := range []string{"m", "s0", "s1", "x", "y", "z"} {
			for i := range 6 {
				if one.c.Has(name, i) != two.c.Has(name, i) {
					t.Errorf("%s, %d: %v", name, i, one.c.Has(name, i))
				}
			}
		}
	}
	same()
	for i := range 6 {
		_, e := one.c.Get("z", i)
		if _, e2 := two.c.Get("z", i); e != e2 {
			t.Errorf("Get of z, %d: %v, not %v", i, e, e2)
		}
		same()
	}
	for _, name := range []string{"m", "s0", "s1", "x", "y"} {
		for i := range 4 {
			if n, m := takePins(one.c, name, i), takePins(two.c, name, i); n != m {
				t.Errorf("%s, %d: %d pins, not %d", name, i, n, m)
			}
		}
	}
	one.f.Fail(1 << 40)
	two.f.Fail(1 << 40)
	wantFiles(t, one.f, stored(t, two.f))
}

func newWorld(t *testing.T, room, most int) world {
	t.Helper()
	f := filled(t, room+6, map[string][]string{"z": slices.Repeat([]string{pageByHand("z")}, 6)})
	return world{f, newCache(t, f, most)}
}

// sameActs does with two worlds what data says, and tells all that was told.
func sameActs(t *testing.T, data string) string {
	t.Helper()
	if len(data) < 2 {
		return ""
	}
	room, most := 1+int(data[0]%24), 1+int(data[1]%5)
	one, two := newWorld(t, room, most), newWorld(t, room, most)
	told := ""
	for data = data[2:]; len(data) >= 4 && !t.Failed(); data = data[4:] {
		told += act(t, one, two, [4]byte([]byte(data[:4]))) + " "
	}
	wantSameWorlds(t, one, two)
	return told
}

// P12.2, P12.3, P12.4: acts of all kinds, in any order.
func TestActsAsPageByPage(t *testing.T) {
	for seed := range 1200 {
		data := text(2+4*(seed%120), seed)
		if told := sameActs(t, data); told != sameActs(t, data) {
			t.Errorf("%q: another time other things were told", data)
		}
		if t.Failed() {
			t.Fatalf("the acts %q", data)
		}
	}
}

func FuzzBuild(f *testing.F) {
	for seed := range 20 {
		f.Add([]byte(text(2+4*(5+seed), seed)))
	}
	f.Fuzz(func(t *testing.T, data []byte) {
		sameActs(t, string(data[:min(len(data), 800)]))
	})
}
