package manifest

import (
	"encoding/binary"
	"fmt"
	"hash/crc32"
	"math"
	"math/rand/v2"
	"slices"
	"strconv"
	"strings"
	"testing"

	"carousel/api"
	"carousel/parts"
)

// wrongVertices are no numbers of vertices.
var wrongVertices = []int{0, 257, 258, 272, 512, 4096, 1 << 16, 1 << 32, 1<<32 + 10, math.MaxInt - 1, math.MaxInt, -1, -2, -10, -255, -256, -257, -1 << 32, math.MinInt + 1, math.MinInt}

// wrongEdges are no numbers of edges.
var wrongEdges = []int{-1, -2, -10, -300, -4095, -4096, -4097, -1 << 32, -1<<32 + 300, math.MinInt + 1, math.MinInt, 4097, 4098, 8192, 1 << 16, 1 << 32, 1<<32 + 300, math.MaxInt - 1, math.MaxInt}

// numbersOfEdges are some that a graph may have, those beside which there is a byte more, the fewest and the most of them among these.
var numbersOfEdges = []int{0, 1, 2, 99, 126, 127, 128, 129, 255, 256, 300, 1000, 4094, 4095, 4096}

// between are the intervals whose ends are these numbers, two of them an interval.
func between(ends ...int) []api.Part {
	var l []api.Part
	for k := 0; k < len(ends); k += 2 {
		l = append(l, api.Part{From: ends[k], To: ends[k+1]})
	}
	return l
}

// upTo are intervals that follow on one another, from 0 on: each of the numbers is the end of one.
func upTo(ends ...int) []api.Part {
	var l []api.Part
	from := 0
	for _, to := range ends {
		l = append(l, api.Part{From: from, To: to})
		from = to
	}
	return l
}

// graph is one with so many edges whose parts have these ends, the last of which is how many vertices there are.
func graph(edges int, ends ...int) api.Graph {
	return api.Graph{Vertices: ends[len(ends)-1], Edges: edges, Parts: upTo(ends...)}
}

// ofTen is the graph of the document's example.
func ofTen() api.Graph {
	return graph(300, 4, 10)
}

// ones are the numbers from 1 up to so many.
func ones(many int) []int {
	var l []int
	for k := range many {
		l = append(l, k+1)
	}
	return l
}

// sixteens are where 16 parts of 256 vertices end, each as large as all others.
func sixteens() []int {
	var l []int
	for k := range 16 {
		l = append(l, 16*k+16)
	}
	return l
}

// mixed are the ends of so many parts of n vertices, of any sizes, other ones for each seed.
func mixed(n, many, seed int) []int {
	r := rand.New(rand.NewPCG(11, uint64(seed)))
	ends := append(r.Perm(n - 1)[:many-1], n-1)
	for k := range ends {
		ends[k]++
	}
	slices.Sort(ends)
	return ends
}

// few are graphs of all kinds: one vertex, 256 of them, one part, 16 of them, as many parts as vertices, and parts of unlike sizes.
func few() []api.Graph {
	return []api.Graph{
		ofTen(),
		graph(0, 1), graph(1, 1), graph(127, 1), graph(128, 1), graph(4096, 1),
		graph(0, 256), graph(300, 256), graph(4096, 256),
		graph(0, sixteens()...), graph(4096, sixteens()...),
		graph(0, ones(2)...), graph(7, ones(3)...), graph(4095, ones(16)...), graph(3, append(ones(15), 256)...),
		graph(128, 241, 242, 243, 244, 245, 246, 247, 248, 249, 250, 251, 252, 253, 254, 255, 256),
		graph(5, 127), graph(5, 128), graph(5, 127, 128), graph(5, 127, 255), graph(5, 127, 256), graph(5, 128, 256), graph(5, 1, 129), graph(5, 1, 130), graph(5, 1, 131), graph(200, 128, 129, 256),
		graph(99, 99, 196, 255), graph(12, mixed(100, 7, 1)...), graph(2500, mixed(256, 16, 2)...), graph(2500, mixed(200, 15, 3)...),
	}
}

// many are graphs of all numbers of vertices, in all numbers of parts, cut and of other sizes.
func many(t *testing.T) []api.Graph {
	t.Helper()
	l := few()
	for n := 1; n <= 256; n++ {
		for s := 1; s <= min(n, 16); s++ {
			cut, e := parts.Cut(n, s)
			if e != api.OK {
				t.Fatal(n, s, e)
			}
			edges := numbersOfEdges[(n+s)%len(numbersOfEdges)]
			l = append(l, api.Graph{Vertices: n, Edges: edges, Parts: cut}, graph(16*n+s-16, mixed(n, s, n+s)...))
		}
	}
	return l
}

// raw is a graph's bytes, all but the sum, thing by thing: each of them may be put another way.
type raw struct {
	letters, vertices, edges, many string
	ends                           []string // of the first one itself, of each other one how far it is behind the one ahead, less 1
}

func (r raw) body() string {
	return r.letters + r.vertices + r.edges + r.many + strings.Join(r.ends, "")
}

func (r raw) bytes() string {
	return sealedByHand(r.body())
}

// sealedByHand tells a text with its sum behind it.
func sealedByHand(text string) string {
	return string(binary.LittleEndian.AppendUint32([]byte(text), crc32.ChecksumIEEE([]byte(text))))
}

// number tells the bytes of one number.
func number(n uint64) string {
	return string(binary.AppendUvarint(nil, n))
}

// longer tells the bytes of a number, and one more than it needs.
func longer(n uint64) string {
	b := binary.AppendUvarint(nil, n)
	b[len(b)-1] |= 128
	return string(append(b, 0))
}

// gapped tells the bytes of each of these ends.
func gapped(ends ...int) []string {
	var l []string
	ahead := -1
	for _, end := range ends {
		l = append(l, number(uint64(end-ahead-1)))
		ahead = end
	}
	return l
}

// endsByHand tells where these intervals end.
func endsByHand(l []api.Part) []int {
	var ends []int
	for _, part := range l {
		ends = append(ends, part.To)
	}
	return ends
}

// byHand tells a graph's bytes, thing by thing.
func byHand(g api.Graph) raw {
	return raw{
		letters: "car", vertices: number(uint64(g.Vertices)), edges: number(uint64(g.Edges)),
		many: number(uint64(len(g.Parts))), ends: gapped(endsByHand(g.Parts)...),
	}
}

// mayBe tells whether a graph may be, by putting down the vertices of its parts one by one.
func mayBe(g api.Graph) bool {
	if g.Vertices <= 0 || g.Vertices >= 257 || g.Edges <= -1 || g.Edges >= 4097 || len(g.Parts) == 0 || len(g.Parts) >= 17 {
		return false
	}
	var vertices []int
	for _, part := range g.Parts {
		if part.From < 0 || part.From > 255 || part.To > 256 || part.To <= part.From {
			return false
		}
		for v := part.From; v < part.To; v++ {
			vertices = append(vertices, v)
		}
	}
	for v, is := range vertices {
		if v != is {
			return false
		}
	}
	return len(vertices) == g.Vertices
}

// readByHand tells the graph whose bytes are b: it believes what they say, writes that by hand, and asks whether it is b.
func readByHand(b string) (api.Graph, bool) {
	at := 3
	next := func() int {
		n, size := binary.Uvarint([]byte(b[min(at, len(b)):]))
		if size <= 0 || n > 5000 {
			return -1
		}
		at += size
		return int(n)
	}
	g := api.Graph{Vertices: next(), Edges: next()}
	end := -1
	for range next() {
		gap := next()
		if gap < 0 || end > 256 {
			return api.Graph{}, false
		}
		part := api.Part{From: max(end, 0), To: end + 1 + gap}
		end = part.To
		g.Parts = append(g.Parts, part)
	}
	if !mayBe(g) || byHand(g).bytes() != b {
		return api.Graph{}, false
	}
	return g, true
}

// clone tells a copy of g, with what lies behind its parts.
func clone(g api.Graph) api.Graph {
	size := len(g.Parts)
	g.Parts = slices.Clone(g.Parts[:cap(g.Parts)])[:size]
	return g
}

// with tells a copy of g with these parts.
func with(g api.Graph, l []api.Part) api.Graph {
	g.Parts = l
	return g
}

// equal tells whether a and b are one graph.
func equal(a, b api.Graph) bool {
	return a.Vertices == b.Vertices && a.Edges == b.Edges && slices.Equal(a.Parts, b.Parts)
}

// short tells a value, cut where it is too long to be read.
func short(v any) string {
	s := fmt.Sprint(v)
	return s[:min(len(s), 300)]
}

// wantKept does what is to be done, and fails if g, or what lies behind its parts, is not as it was.
func wantKept(t *testing.T, g api.Graph, do func()) {
	t.Helper()
	all := with(g, g.Parts[:cap(g.Parts)])
	was := clone(all)
	do()
	if !equal(all, was) {
		t.Errorf("%s has become %s", short(was), short(all))
	}
}

// wantGraph fails unless g may be, has these bytes, and is what they are.
func wantGraph(t *testing.T, g api.Graph, want string) {
	t.Helper()
	wantKept(t, g, func() {
		if e := Check(g); e != api.OK {
			t.Errorf("Check(%s): %v, not OK", short(g), e)
		}
		if b, e := Encode(g); b != want || e != api.OK {
			t.Errorf("Encode(%s): %q, %v; not %q, OK", short(g), b, e, want)
		}
	})
	if told, e := Decode(want); !equal(told, g) || e != api.OK {
		t.Errorf("Decode(%q): %s, %v; not %s, OK", want, short(told), e, short(g))
	}
}

// wantRefused fails unless g may not be.
func wantRefused(t *testing.T, g api.Graph) {
	t.Helper()
	wantKept(t, g, func() {
		if e := Check(g); e != api.ErrArg {
			t.Errorf("Check(%s): %v, not ErrArg", short(g), e)
		}
		if b, e := Encode(g); b != "" || e != api.ErrArg {
			t.Errorf("Encode(%s): %q, %v; not nothing, ErrArg", short(g), b, e)
		}
	})
}

// wantNoGraph fails unless b are no graph's bytes.
func wantNoGraph(t *testing.T, b string) {
	t.Helper()
	if g, e := Decode(b); g.Vertices != 0 || g.Edges != 0 || len(g.Parts) != 0 || e != api.ErrForm {
		t.Errorf("Decode(%s): %s, %v; not nothing, ErrForm", short(strconv.Quote(b)), short(g), e)
	}
}

// wantAsChecked fails unless Check, Encode and Decode tell of g what going through its vertices tells.
func wantAsChecked(t *testing.T, g api.Graph) {
	t.Helper()
	if mayBe(g) {
		wantGraph(t, g, byHand(g).bytes())
	} else {
		wantRefused(t, g)
	}
}

// wantAsRead fails unless Decode tells of b what reading it by hand tells.
func wantAsRead(t *testing.T, b string) {
	t.Helper()
	if g, ok := readByHand(b); ok {
		wantGraph(t, g, b)
	} else {
		wantNoGraph(t, b)
	}
}

// P11.1: what the document says of Encode and of Check.
func TestDocumentsGraph(t *testing.T) {
	wantGraph(t, ofTen(), sealedByHand("car\x0a\xac\x02\x02\x04\x05"))
	more := ofTen()
	more.Edges = 4097
	wantRefused(t, more)
	wantRefused(t, with(ofTen(), ofTen().Parts[:1]))
}

// P11.1: bytes by hand, byte by byte, and the sum of one graph, as it is known.
func TestBytesOfGraphs(t *testing.T) {
	wantGraph(t, api.Graph{Vertices: 1, Edges: 0, Parts: between(0, 1)}, sealedByHand("car\x01\x00\x01\x01"))
	wantGraph(t, api.Graph{Vertices: 2, Edges: 1, Parts: between(0, 1, 1, 2)}, sealedByHand("car\x02\x01\x02\x01\x00"))
	wantGraph(t, api.Graph{Vertices: 256, Edges: 4096, Parts: between(0, 256)}, sealedByHand("car\x80\x02\x80\x20\x01\x80\x02"))
	wantGraph(t, graph(127, 127), sealedByHand("car\x7f\x7f\x01\x7f"))
	wantGraph(t, graph(128, 128), sealedByHand("car\x80\x01\x80\x01\x01\x80\x01"))
	wantGraph(t, graph(4095, 255, 256), sealedByHand("car\x80\x02\xff\x1f\x02\xff\x01\x00"))
	wantGraph(t, graph(5, 1, 256), sealedByHand("car\x80\x02\x05\x02\x01\xfe\x01"))
	wantGraph(t, graph(0, sixteens()...), sealedByHand("car\x80\x02\x00\x10\x10"+strings.Repeat("\x0f", 15)))
	wantGraph(t, graph(16, ones(16)...), sealedByHand("car\x10\x10\x10\x01"+strings.Repeat("\x00", 15)))
	b, _ := Encode(ofTen())
	if sum := crc32.ChecksumIEEE([]byte(b)); sum != 0x2144df1c {
		t.Errorf("with its sum behind it, the lowest byte first, the sum of %q is %x", b, sum)
	}
}

// P11.1, P11.2: graphs of all numbers of vertices and of parts.
func TestGraphsOfAllSizes(t *testing.T) {
	for _, g := range many(t) {
		if !mayBe(g) {
			t.Fatal(short(g))
		}
		wantGraph(t, g, byHand(g).bytes())
	}
}

// P11.1: each number of edges that may be, of the fewest vertices and of the most.
func TestEachNumberOfEdges(t *testing.T) {
	for edges := range 4097 {
		for _, g := range []api.Graph{graph(edges, 1), graph(edges, sixteens()...)} {
			b := byHand(g).bytes()
			wantGraph(t, g, b)
			size := len(byHand(graph(0, endsByHand(g.Parts)...)).bytes())
			if edges > 127 {
				size++
			}
			if len(b) != size {
				t.Errorf("%s has %d bytes, not %d", short(g), len(b), size)
			}
		}
	}
}

// P11.1, P11.2: numbers of edges that no graph has.
func TestWrongEdgesAreRefused(t *testing.T) {
	for _, g := range few() {
		for _, wrong := range wrongEdges {
			g.Edges = wrong
			wantRefused(t, g)
			wantNoGraph(t, byHand(g).bytes())
		}
	}
}

// P11.1, P11.2: numbers of vertices that no graph has, with all parts there may be, with those of so many, and with none.
func TestWrongVerticesAreRefused(t *testing.T) {
	for _, wrong := range wrongVertices {
		of := api.Graph{Vertices: wrong, Edges: 3}
		lists := [][]api.Part{nil, {}, between(0, wrong), between(0, 0), between(0, 1, 1, wrong), between(0, 255, 255, wrong), between(0, 256, 256, wrong), between(wrong, wrong), between(wrong, 0), between(wrong, 256)}
		for _, g := range few() {
			lists = append(lists, g.Parts)
		}
		for _, l := range lists {
			wantRefused(t, with(of, l))
			wantNoGraph(t, byHand(with(of, l)).bytes())
		}
	}
	wantRefused(t, api.Graph{})
	wantRefused(t, api.Graph{Edges: 5, Parts: between(0, 1)})
}

// P11.1: parts of n vertices are those of no other number.
func TestPartsOfOtherVertices(t *testing.T) {
	for _, g := range few() {
		right := g.Vertices
		for n := -2; n <= 260; n++ {
			if n != right {
				g.Vertices = n
				wantRefused(t, g)
			}
		}
	}
}

// P11.1: no parts, nil or empty, whatever else there is.
func TestNoPartsAreRefused(t *testing.T) {
	for n := -1; n <= 257; n++ {
		for _, l := range [][]api.Part{nil, {}, make([]api.Part, 0, 9), upTo(n)[:0]} {
			wantRefused(t, api.Graph{Vertices: n, Parts: l})
			wantRefused(t, api.Graph{Vertices: n, Edges: 4096, Parts: l})
		}
	}
}

// P11.1, P11.2: more parts than 16, though each of them has a vertex.
func TestTooManyPartsAreRefused(t *testing.T) {
	for n := 17; n <= 256; n++ {
		seventeen := append(ones(16), n)
		for _, ends := range [][]int{seventeen, mixed(n, 17, n), mixed(n, min(n, 18), n), ones(n)} {
			g := graph(3, ends...)
			wantRefused(t, g)
			wantNoGraph(t, byHand(g).bytes())
		}
		g := graph(3, append(ones(15), n)...)
		wantGraph(t, g, byHand(g).bytes())
	}
	for _, size := range []int{17, 256, 5000} {
		wantRefused(t, api.Graph{Vertices: 256, Parts: slices.Repeat(between(0, 256), size)})
		wantRefused(t, api.Graph{Vertices: 10, Parts: make([]api.Part, size)})
	}
}

// wrongParts are no parts of 10 vertices.
func wrongParts() [][]api.Part {
	least, greatest := math.MinInt, math.MaxInt
	return [][]api.Part{
		between(1, 10), between(2, 4, 4, 10), between(4, 10), between(9, 10), // begin behind 0
		between(-1, 10), between(-1, 4, 4, 10), between(-10, 10), between(-1, 0, 0, 10), between(least, 10), between(least, 4, 4, 10), // begin ahead of it
		between(0, 4, 5, 10), between(0, 1, 2, 3, 3, 10), between(0, 3, 3, 8, 9, 10), between(0, 4, 9, 10), // leave a vertex out
		between(0, 5, 4, 10), between(0, 4, 3, 10), between(0, 10, 0, 10), between(0, 4, 0, 10), between(0, 4, 4, 7, 6, 10), between(0, 4, 4, 10, 9, 10), // have one twice
		between(0, 0, 0, 10), between(0, 10, 10, 10), between(0, 4, 4, 4, 4, 10), between(0, 4, 5, 5, 4, 10), between(0, 0), between(10, 10), // are empty
		between(4, 10, 0, 4), between(0, 4, 7, 10, 4, 7), between(4, 7, 0, 4, 7, 10), between(7, 10, 4, 7, 0, 4), // stand in another order
		between(0, 9), between(0, 4, 4, 9), between(0, 4), between(0, 1), between(0, 4, 4, 5), // end ahead of the last vertex
		between(0, 11), between(0, 4, 4, 11), between(0, 10, 10, 11), between(0, 256), between(0, 257), between(0, greatest), between(0, 4, 4, greatest), between(0, 4, 4, 10, 10, greatest), // end behind it
		between(10, 0), between(4, 0, 4, 10), between(0, 4, 10, 4), between(0, 7, 7, 4, 4, 10), between(0, 4, 4, 12, 12, 10), between(0, greatest, greatest, 10), between(0, least, least, 10), between(0, least), // end ahead of where they begin
		between(least, greatest), between(greatest, least), between(least, least), between(greatest, greatest), between(0, greatest, greatest, least, least, 10),
		between(0, 1<<32+10), between(1<<32, 1<<32+10), between(0, 1<<32+4, 1<<32+4, 10), between(0, 4, 1<<32+4, 10), between(-1<<32, 10),
	}
}

// P11.1: wrong parts, alone, behind right ones, and ahead of them.
func TestWrongPartsAreRefused(t *testing.T) {
	for _, l := range wrongParts() {
		for _, edges := range []int{0, 300, 4096} {
			wantRefused(t, api.Graph{Vertices: 10, Edges: edges, Parts: l})
		}
		wantRefused(t, api.Graph{Vertices: 10, Parts: append(between(0, 10), l...)})
		wantRefused(t, api.Graph{Vertices: 10, Parts: append(slices.Clone(l), between(0, 4, 4, 10)...)})
	}
}

// P11.1: one number of right parts is another one.
func TestOtherEndsAreRefused(t *testing.T) {
	for _, g := range few() {
		for k := range g.Parts {
			right := g.Parts[k]
			for _, other := range append(ones(257), 0, -1, -256, 1<<32, math.MinInt, math.MaxInt) {
				if other != right.From {
					g.Parts[k].From = other
					wantRefused(t, g)
				}
				g.Parts[k] = right
				if other != right.To {
					g.Parts[k].To = other
					wantRefused(t, g)
				}
				g.Parts[k] = right
			}
		}
	}
}

// P11.1: one of right parts is left out, or there once more.
func TestOnePartMoreOrLess(t *testing.T) {
	for _, g := range few() {
		for k, part := range g.Parts {
			wantRefused(t, with(g, slices.Delete(slices.Clone(g.Parts), k, k+1)))
			wantRefused(t, with(g, slices.Insert(slices.Clone(g.Parts), k, part)))
			wantRefused(t, with(g, append(slices.Clone(g.Parts), part)))
			for j := range k {
				exchanged := slices.Clone(g.Parts)
				exchanged[j], exchanged[k] = exchanged[k], exchanged[j]
				wantRefused(t, with(g, exchanged))
			}
		}
	}
}

// P11.1, P11.2: all graphs of at most three intervals about three vertices.
func TestEachGraphOfFewIntervals(t *testing.T) {
	var each []api.Part
	for from := -1; from <= 4; from++ {
		for to := -1; to <= 4; to++ {
			each = append(each, api.Part{From: from, To: to})
		}
	}
	for n := -1; n <= 5; n++ {
		for _, a := range each {
			wantAsChecked(t, api.Graph{Vertices: n, Edges: 2, Parts: []api.Part{a}})
			for _, b := range each {
				wantAsChecked(t, api.Graph{Vertices: n, Edges: 2, Parts: []api.Part{a, b}})
				for _, c := range each {
					wantAsChecked(t, api.Graph{Vertices: n, Edges: 2, Parts: []api.Part{a, b, c}})
				}
			}
		}
	}
}

// P11.1 to P11.3: all parts that there are of at most 17 vertices: all are graphs but the one with 17 parts, and no two have the same bytes.
func TestAllPartsOfFewVertices(t *testing.T) {
	all, told := 0, map[string]bool{}
	for n := 1; n <= 17; n++ {
		for ends := range 1 << (n - 1) {
			var l []int
			for end := 1; end < n; end++ {
				if ends>>(end-1)&1 == 1 {
					l = append(l, end)
				}
			}
			g := graph(ends%4097, append(l, n)...)
			wantAsChecked(t, g)
			if b, e := Encode(g); e == api.OK {
				all++
				told[b] = true
			}
		}
	}
	if all != 1<<17-2 || len(told) != all {
		t.Errorf("%d graphs have %d texts of bytes", all, len(told))
	}
}

// P11.2: texts that are no graph's bytes at all.
func TestOtherTextsAreNoGraph(t *testing.T) {
	for _, s := range []string{"", "c", "ca", "car", "carc", "carcar", "\x00", "\x00\x00\x00", "\x00\x00\x00\x00", "car\x01\x00\x01", "car\x00\x00\x00", "car\x00\x00\x01\x00", strings.Repeat("\x00", 100), strings.Repeat("\x01", 100), strings.Repeat("\xff", 100), strings.Repeat("car", 10000)} {
		wantNoGraph(t, s)
		wantNoGraph(t, sealedByHand(s))
		wantNoGraph(t, sealedByHand(s)[:len(s)+3])
	}
	wantNoGraph(t, "car\x01\x00\x01\x01")
	wantNoGraph(t, "car\x0a\xac\x02\x02\x04\x05")
}

// P11.2: the sum in another order, of other bytes, of the letters not, none, and twice.
func TestWrongSumsAreNoGraph(t *testing.T) {
	for _, g := range few() {
		b := byHand(g).bytes()
		body, sum := b[:len(b)-4], []byte(b[len(b)-4:])
		wantNoGraph(t, body)
		wantNoGraph(t, b+string(sum))
		slices.Reverse(sum)
		wantNoGraph(t, body+string(sum))
		wantNoGraph(t, body+"\x00\x00\x00\x00")
		wantNoGraph(t, body+"\xff\xff\xff\xff")
		wantNoGraph(t, body+sealedByHand(body[3:])[len(body)-3:])
		wantNoGraph(t, body+sealedByHand(body[:len(body)-1])[len(body)-1:])
		wantNoGraph(t, body+sealedByHand(b)[len(b):])
		wantNoGraph(t, string(sum)+body)
		turned := crc32.ChecksumIEEE([]byte(body)) ^ 0xffffffff
		wantNoGraph(t, string(binary.LittleEndian.AppendUint32([]byte(body), turned)))
	}
}

// P11.2: other letters, whose sum is right.
func TestOtherLettersAreNoGraph(t *testing.T) {
	for _, g := range few() {
		r := byHand(g)
		for _, letters := range []string{"", "c", "ca", "cr", "ar", "rac", "cra", "acr", "Car", "cAr", "caR", "CAR", "carr", "ccar", "caar", "car ", " car", "car\x00", "\x00car", "sh", "shs", "cat", "bar", "\x00\x00\x00", "c\x00r", "\x00ar", "ca\x00", "ca\xf2"} {
			r.letters = letters
			wantNoGraph(t, r.bytes())
		}
		for k := range 3 {
			for x := range 256 {
				letters := []byte("car")
				letters[k] = byte(x)
				r.letters = string(letters)
				wantAsRead(t, r.bytes())
				if r.letters != "car" {
					wantNoGraph(t, r.bytes())
				}
			}
		}
	}
}

// otherNumbers are the bytes of other numbers than n, near it and far away.
func otherNumbers(n uint64) []string {
	var l []string
	for m := range uint64(600) {
		if m != n {
			l = append(l, number(m))
		}
	}
	for _, m := range []uint64{4095, 4096, 4097, 1 << 16, 1 << 32, 1<<32 + n, 1<<63 - 2, 1<<63 - 1, 1 << 63, 1<<63 + n, 1<<64 - 1, 1<<64 - 3, -n, ^n} {
		if m != n {
			l = append(l, number(m))
		}
	}
	return l
}

// noNumbers are n in more bytes than it needs, what is too great to be an int, and what is no number.
func noNumbers(n uint64) []string {
	l := []string{"\x80", "\xff\xff", longer(n), longer(n)[:len(longer(n))-1] + "\x80\x00", strings.Repeat("\xff", 9) + "\x02", strings.Repeat("\x80", 10) + "\x01"}
	for _, m := range []uint64{1 << 63, 1<<63 + n, 1<<64 - 1} {
		l = append(l, number(m))
	}
	return l
}

// P11.2: another number of vertices, its bytes longer than they need to be, the greatest int, and what is no number.
func TestWrongVerticesAreNoGraph(t *testing.T) {
	for _, g := range few() {
		r := byHand(g)
		for _, other := range append(otherNumbers(uint64(g.Vertices)), noNumbers(uint64(g.Vertices))...) {
			r.vertices = other
			wantNoGraph(t, r.bytes())
		}
		r.vertices = ""
		wantAsRead(t, r.bytes())
	}
}

// P11.2: another number of edges makes another graph, if one may have so many; its bytes longer than they need to be, the greatest int, and what is no number make none.
func TestOtherEdgesOfBytes(t *testing.T) {
	for _, g := range few() {
		r := byHand(g)
		for _, other := range otherNumbers(uint64(g.Edges)) {
			r.edges = other
			wantAsRead(t, r.bytes())
		}
		for _, wrong := range noNumbers(uint64(g.Edges)) {
			r.edges = wrong
			wantNoGraph(t, r.bytes())
		}
		for _, edges := range []uint64{4097, 4098, 1 << 16, 1 << 32, 1<<32 + 300, 1<<63 - 1, 1<<64 - 1} {
			r.edges = number(edges)
			wantNoGraph(t, r.bytes())
		}
		r.edges = ""
		wantAsRead(t, r.bytes())
	}
}

// P11.2: another number of ends, its bytes longer than they need to be, the greatest int, and what is no number.
func TestWrongNumbersOfEndsAreNoGraph(t *testing.T) {
	for _, g := range few() {
		r := byHand(g)
		for _, other := range append(otherNumbers(uint64(len(g.Parts))), noNumbers(uint64(len(g.Parts)))...) {
			r.many = other
			wantNoGraph(t, r.bytes())
		}
		r.many = ""
		wantAsRead(t, r.bytes())
	}
}

// P11.2: another end, in the place of each; its bytes longer than they need to be, the greatest int, and what is no number.
func TestWrongEndsAreNoGraph(t *testing.T) {
	for _, g := range few() {
		right := byHand(g)
		for k := range right.ends {
			r, gap := right, g.Parts[k].To
			if k > 0 {
				gap -= g.Parts[k].From + 1
			}
			for _, other := range append(otherNumbers(uint64(gap)), noNumbers(uint64(gap))...) {
				r.ends = slices.Clone(right.ends)
				r.ends[k] = other
				// Each end behind it is another one as well, the last one too.
				wantNoGraph(t, r.bytes())
			}
			r.ends[k] = ""
			wantNoGraph(t, r.bytes())
		}
	}
}

// P11.2: another end alone, all ends behind it as they are: another graph, if that is where no other one is.
func TestOneOtherEndOfBytes(t *testing.T) {
	for _, g := range few() {
		ends := endsByHand(g.Parts)
		for k := range ends {
			for end := range 260 {
				other := slices.Clone(ends)
				other[k] = end
				r := byHand(g)
				r.ends = gapped(other...)
				wantAsRead(t, r.bytes())
				if k == len(ends)-1 && end != g.Vertices {
					wantNoGraph(t, r.bytes())
				}
			}
		}
	}
}

// P11.2: an end 0, alone and ahead of all others, and ends that go on beyond the greatest int.
func TestEndsThatAreNone(t *testing.T) {
	for _, g := range few() {
		r, ends := byHand(g), endsByHand(g.Parts)
		wantNone := func(wrong ...string) {
			r.many, r.ends = number(uint64(len(wrong))), wrong
			wantNoGraph(t, r.bytes())
		}
		wantNone()
		wantNone(gapped(0)...)
		wantNone(gapped(append([]int{0}, ends...)...)...)
		wantNone(gapped(append([]int{0}, ends[1:]...)...)...)
		wantNone(gapped(append(slices.Clone(ends), g.Vertices+1)...)...)
		wantNone(gapped(append(slices.Clone(ends), 1000)...)...)
		for _, far := range []uint64{1<<63 - 1, 1<<63 - 2, 1 << 63, 1<<64 - 1, 1<<64 - 2, -uint64(g.Vertices), -uint64(g.Vertices) - 1, 1<<63 - uint64(g.Vertices), 1<<63 - 1 - uint64(g.Vertices)} {
			wantNone(number(far))
			wantNone(append(gapped(ends...), number(far))...)
			wantNone(append(gapped(ends...), number(far), number(uint64(g.Vertices)))...)
			wantNone(append([]string{number(far)}, gapped(ends...)...)...)
			wantNone(append([]string{number(3), number(far)}, gapped(ends...)...)...)
		}
	}
}

// P11.2: the numbers in another order, twice, and not all of them; a graph's bytes twice.
func TestThingsInAnotherOrder(t *testing.T) {
	for _, g := range few() {
		r := byHand(g)
		list := r.many + strings.Join(r.ends, "")
		for _, body := range []string{
			"car" + r.edges + r.vertices + list, "car" + list + r.vertices + r.edges, "car" + r.vertices + list + r.edges,
			"car" + r.vertices + r.edges + strings.Join(r.ends, "") + r.many, r.vertices + r.edges + list + "car",
			"car" + r.vertices + r.vertices + r.edges + list, "car" + r.vertices + r.edges + list + list, r.body() + r.body(),
			"car" + r.vertices + r.edges, "car" + r.vertices, "car" + list, "car" + r.vertices + list, "car" + r.edges + list,
		} {
			wantAsRead(t, sealedByHand(body))
		}
		wantNoGraph(t, sealedByHand(r.body()+list))
		wantNoGraph(t, sealedByHand("car"+r.vertices+r.edges))
		wantNoGraph(t, r.bytes()+r.bytes())
		wantNoGraph(t, sealedByHand(r.bytes()))
	}
}

// P11.2, P11.3: every byte put to every other value, the sum as it was, and as it is to be then.
func TestEveryByteOtherwise(t *testing.T) {
	for _, g := range few() {
		b := byHand(g).bytes()
		for i := range b {
			for x := 1; x < 256; x++ {
				wrong := []byte(b)
				wrong[i] ^= byte(x)
				wantNoGraph(t, string(wrong))
				wantAsRead(t, sealedByHand(string(wrong[:len(b)-4])))
			}
		}
	}
}

// P11.3: every end cut off, at the front too, and every byte left out; the sum as it was, and as it is to be then.
func TestCutOff(t *testing.T) {
	for _, g := range many(t) {
		b := byHand(g).bytes()
		for i := range b {
			wantNoGraph(t, b[:i])
			wantNoGraph(t, b[i+1:])
			wantNoGraph(t, b[:i]+b[i+1:])
			if i < len(b)-4 {
				wantNoGraph(t, sealedByHand(b[:i]))
				wantNoGraph(t, sealedByHand(b[i+1:len(b)-4]))
				wantAsRead(t, sealedByHand(b[:i]+b[i+1:len(b)-4]))
				wantNoGraph(t, b[:i]+b[len(b)-4:])
			}
		}
	}
}

// P11.2: something put behind, ahead, and within; the sum as it was, and as it is to be then.
func TestSomethingMore(t *testing.T) {
	for _, g := range few() {
		b := byHand(g).bytes()
		body := b[:len(b)-4]
		for x := range 256 {
			more := string([]byte{byte(x)})
			wantNoGraph(t, b+more)
			wantNoGraph(t, more+b)
			wantNoGraph(t, body+more+b[len(body):])
			wantNoGraph(t, sealedByHand(body+more))
			wantNoGraph(t, sealedByHand(b+more))
			wantNoGraph(t, sealedByHand(more+body))
			for i := range len(body) {
				wantAsRead(t, sealedByHand(body[:i]+more+body[i:]))
			}
		}
		for _, more := range []string{b, body, b[len(body):], "\x00\x00\x00\x00", strings.Repeat("\x00", 1000), "car", strings.Repeat("\xff", 30)} {
			wantNoGraph(t, b+more)
			wantNoGraph(t, more+b)
			wantNoGraph(t, sealedByHand(body+more))
			wantNoGraph(t, sealedByHand(b+more))
		}
	}
}

// P11.2: all texts of at most seven of a few bytes behind the letters, with the right sum.
func TestEachShortText(t *testing.T) {
	graphs := 0
	var each func(text string, left int)
	each = func(text string, left int) {
		b := sealedByHand("car" + text)
		wantAsRead(t, b)
		if _, e := Decode(b); e == api.OK {
			graphs++
		}
		for k := range 5 * min(left, 1) {
			each(text+"\x00\x01\x02\x03\x80"[k:k+1], left-1)
		}
	}
	each("", 7)
	if graphs < 50 {
		t.Errorf("only %d of them are graphs", graphs)
	}
}

// P11.2: all graphs of at most three vertices and at most three edges, and no other short texts of numbers below 4, are decoded.
func TestShortTextsOfGraphs(t *testing.T) {
	of := map[string]api.Graph{}
	for _, ends := range [][]int{{1}, {2}, {1, 2}, {3}, {1, 3}, {2, 3}, {1, 2, 3}} {
		for edges := range 4 {
			g := graph(edges, ends...)
			of[byHand(g).bytes()] = g
		}
	}
	var each func(text string)
	each = func(text string) {
		b := sealedByHand("car" + text)
		if g, ok := of[b]; ok {
			wantGraph(t, g, b)
			delete(of, b)
		} else {
			wantNoGraph(t, b)
		}
		for k := range 4 * min(6-len(text), 1) {
			each(text + string([]byte{byte(k)}))
		}
	}
	each("")
	if len(of) != 0 {
		t.Errorf("%d graphs were not among these texts", len(of))
	}
}

// P11.3: what is encoded is decoded, what is decoded was encoded so.
func TestThereAndBack(t *testing.T) {
	for _, g := range many(t) {
		b, e := Encode(g)
		if e != api.OK {
			t.Fatal(short(g), e)
		}
		told, e := Decode(b)
		if !equal(told, g) || e != api.OK {
			t.Errorf("%s has become %s, %v", short(g), short(told), e)
		}
		if again, e := Encode(told); again != b || e != api.OK {
			t.Errorf("%q has become %q, %v", b, again, e)
		}
	}
}

// patterns are bits of four bytes that are turned over: one, two, all, the first ones, the last ones, and others.
func patterns() []uint32 {
	r := rand.New(rand.NewPCG(11, 32))
	l := []uint32{0xffffffff, 0xedb88320, 0x04c11db7, 0x2144df1c}
	for i := range 32 {
		l = append(l, 0xffffffff<<i, 0xffffffff>>i)
		for range 20 {
			l = append(l, r.Uint32())
		}
		for j := range i + 1 {
			l = append(l, 1<<i|1<<j)
		}
	}
	return slices.DeleteFunc(l, func(x uint32) bool { return x == 0 })
}

// turned tells b with the bits of x turned over, from the byte i on; those that would be behind b are left out.
func turned(b string, i int, x uint32) string {
	l := []byte(b)
	for k := 0; k < 4 && i+k < len(b); k++ {
		l[i+k] ^= byte(x >> (8 * k))
	}
	return string(l)
}

// P11.3: bits within four bytes, side by side, turned over, from every byte on.
func TestBitsWithinFourBytes(t *testing.T) {
	all := patterns()
	for _, g := range few() {
		b := byHand(g).bytes()
		for i := range b {
			for _, x := range all {
				if wrong := turned(b, i, x); wrong != b {
					wantNoGraph(t, wrong)
				}
			}
		}
	}
	for seed, g := range many(t) {
		b := byHand(g).bytes()
		for i := range b {
			x := all[(seed+i)%len(all)]
			if wrong := turned(b, i, x); wrong != b {
				wantNoGraph(t, wrong)
			}
		}
	}
}

// P11.3: another graph's bytes, as long as these, with this one's sum, where they differ within four bytes.
func TestSumsOfOtherGraphs(t *testing.T) {
	for edges := range 4097 {
		b, other := byHand(graph(edges, 4, 10)).bytes(), byHand(graph((edges+1)%4097, 4, 10)).bytes()
		wantNoGraph(t, other[:len(other)-4]+b[len(b)-4:])
	}
	for n := range 256 {
		b, other := byHand(graph(5, n+1)).bytes(), byHand(graph(5, (n+1)%256+1)).bytes()
		wantNoGraph(t, other[:len(other)-4]+b[len(b)-4:])
	}
}

// R4: what is told is new memory: whatever is written to it, what is told later, or was told ahead, is as it was.
func TestToldIsNew(t *testing.T) {
	for _, g := range many(t) {
		b := byHand(g).bytes()
		told, _ := Decode(b)
		other, _ := Decode(b)
		for k := range told.Parts[:cap(told.Parts)] {
			told.Parts[:cap(told.Parts)][k] = api.Part{From: -9, To: -9}
		}
		again, e := Decode(b)
		if !equal(other, g) || !equal(again, g) || e != api.OK {
			t.Errorf("of %s what Decode tells shares memory", short(g))
		}
	}
}

// R4: what is handed in is not looked at later.
func TestHandedInIsNotLookedAtLater(t *testing.T) {
	for _, g := range many(t) {
		given := clone(g)
		b, _ := Encode(given)
		for k := range given.Parts {
			given.Parts[k] = api.Part{From: -9, To: -9}
		}
		if again, e := Encode(g); b != byHand(g).bytes() || again != b || e != api.OK {
			t.Errorf("%s is looked at later", short(g))
		}
		wantRefused(t, given)
		if told, e := Decode(b); !equal(told, g) || e != api.OK {
			t.Errorf("%s is looked at later: Decode tells %s, %v", short(g), short(told), e)
		}
	}
}

// R4: what lies behind a list is no part of it, and stays.
func TestWhatLiesBehindAList(t *testing.T) {
	l := between(0, 4, 4, 10, 10, 12, 3, -3)
	wantGraph(t, api.Graph{Vertices: 10, Edges: 300, Parts: l[:2]}, byHand(ofTen()).bytes())
	wantGraph(t, api.Graph{Vertices: 4, Edges: 1, Parts: l[:1]}, byHand(graph(1, 4)).bytes())
	wantGraph(t, api.Graph{Vertices: 12, Edges: 1, Parts: l[:3]}, byHand(graph(1, 4, 10, 12)).bytes())
	wantRefused(t, api.Graph{Vertices: 10, Edges: 300, Parts: l[:0]})
	wantRefused(t, api.Graph{Vertices: 10, Edges: 300, Parts: l[:1]})
	wantRefused(t, api.Graph{Vertices: 12, Edges: 300, Parts: l})
}

// R1: long texts and long lists come to an end.
func TestLongInputs(t *testing.T) {
	const long = 1 << 20
	for _, text := range []string{"", "car", "car\x0a\x05", "car\x0a\x05" + number(long/2), "car\x0a\x05" + number(long/2) + "\x04"} {
		for _, more := range []string{"\x00", "\x01", "\x7f", "\x80", "\xff"} {
			wantNoGraph(t, text+strings.Repeat(more, long))
			wantNoGraph(t, sealedByHand(text+strings.Repeat(more, long)))
		}
	}
	wantRefused(t, api.Graph{Vertices: 256, Edges: 3, Parts: make([]api.Part, long)})
	wantRefused(t, graph(3, ones(long)...))
	wantRefused(t, with(graph(3, 256), upTo(ones(long)...)))
}

// FuzzManifest: of whatever bytes, with their sum and without, Decode tells what reading them by hand tells; of whatever numbers, Check and Encode tell what going through the vertices tells.
func FuzzManifest(f *testing.F) {
	for _, g := range few() {
		b := byHand(g).bytes()
		f.Add(b[:len(b)-4], g.Vertices, g.Edges)
		f.Add(b, g.Vertices, 4097-g.Edges)
	}
	f.Add("", 0, -1)
	f.Add("\x05\x07\x0a", 10, 3)
	f.Fuzz(func(t *testing.T, text string, vertices, edges int) {
		wantAsRead(t, text)
		wantAsRead(t, sealedByHand(text))
		// Longer texts tell nothing new, and take long.
		text = text[:min(len(text), 40)]
		ends, apart := []int{}, []int{}
		for _, x := range []byte(text) {
			ends = append(ends, int(x)+int(x)/255)
			apart = append(apart, int(int8(x)))
		}
		if len(ends) > 0 {
			wantAsChecked(t, graph(edges, ends...))
		}
		wantAsChecked(t, api.Graph{Vertices: vertices, Edges: edges, Parts: upTo(ends...)})
		wantAsChecked(t, api.Graph{Vertices: vertices, Edges: edges, Parts: upTo(append(slices.Sorted(slices.Values(ends)), vertices)...)})
		wantAsChecked(t, api.Graph{Vertices: vertices, Edges: edges, Parts: between(apart[:len(apart)/2*2]...)})
	})
}
