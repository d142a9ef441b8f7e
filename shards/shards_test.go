package shards

import (
	"encoding/binary"
	"fmt"
	"hash/crc32"
	"maps"
	"math"
	"math/rand/v2"
	"slices"
	"strconv"
	"strings"
	"testing"

	"carousel/api"
	"carousel/edges"
	"carousel/parts"
)

// wrongParts are no parts of a graph's vertices.
var wrongParts = []api.Part{
	{From: 0, To: 0}, {From: 5, To: 5}, {From: 255, To: 255}, {From: 256, To: 256}, // end where they begin
	{From: 1, To: 0}, {From: 5, To: 4}, {From: 256, To: 0}, {From: 256, To: 255}, // end ahead of it
	{From: -1, To: 0}, {From: -1, To: 1}, {From: -1, To: 3}, {From: -2, To: -1}, {From: -256, To: 256}, // begin below 0
	{From: 0, To: 257}, {From: 255, To: 257}, {From: 256, To: 257}, {From: 257, To: 258}, {From: 3, To: 1 << 32}, // end above 256
	{From: 0, To: -1}, {From: 0, To: math.MinInt}, {From: 0, To: math.MaxInt}, {From: 1, To: math.MaxInt},
	{From: math.MinInt, To: 1}, {From: math.MinInt, To: 256}, {From: math.MaxInt, To: 1}, {From: math.MaxInt, To: 256},
	{From: math.MinInt, To: math.MinInt}, {From: math.MaxInt, To: math.MaxInt}, {From: math.MinInt, To: math.MaxInt}, {From: math.MaxInt, To: math.MinInt},
	{From: math.MinInt, To: math.MinInt + 1}, {From: math.MaxInt - 1, To: math.MaxInt}, {From: -1 << 32, To: -1<<32 + 3}, {From: 1 << 32, To: 1<<32 + 3},
}

// to is a list.
func to(ends ...int) []int { return ends }

// shard is the shard from a vertex on whose lists these are.
func shard(from int, lists ...[]int) api.Shard {
	return api.Shard{Part: api.Part{From: from, To: from + len(lists)}, Out: lists}
}

// list is the edges whose ends are these numbers, two of them an edge.
func list(ends ...int) []api.Edge {
	var l []api.Edge
	for k := 0; k < len(ends); k += 2 {
		l = append(l, api.Edge{From: ends[k], To: ends[k+1]})
	}
	return l
}

// first is the first vertices to which v may lead, so many.
func first(v, many int) []int {
	var l []int
	for n := 0; len(l) < many; n++ {
		if n != v {
			l = append(l, n)
		}
	}
	return l
}

// last is the last vertices to which v may lead, so many.
func last(v, many int) []int {
	var l []int
	for n := 255; len(l) < many; n-- {
		if n != v {
			l = append(l, n)
		}
	}
	slices.Reverse(l)
	return l
}

// ofDegrees is a shard from a vertex on, whose lists are so long.
func ofDegrees(from int, degrees ...int) api.Shard {
	var lists [][]int
	for i, degree := range degrees {
		if i%2 == 0 {
			lists = append(lists, first(from+i, degree))
		} else {
			lists = append(lists, last(from+i, degree))
		}
	}
	return shard(from, lists...)
}

// mixed is a shard of a part with so many numbers at most, other ones for each seed.
func mixed(p api.Part, many, seed int) api.Shard {
	r := rand.New(rand.NewPCG(10, uint64(seed)))
	s := api.Shard{Part: p, Out: make([][]int, p.To-p.From)}
	for range many {
		i, n := r.IntN(len(s.Out)), r.IntN(256)
		if n != p.From+i && !slices.Contains(s.Out[i], n) {
			s.Out[i] = append(s.Out[i], n)
		}
	}
	for _, l := range s.Out {
		slices.Sort(l)
	}
	return s
}

// most is a shard of all vertices, with 4096 numbers.
func most() api.Shard {
	return ofDegrees(0, slices.Repeat([]int{16}, 256)...)
}

// ofThree is the shard of the document's example.
func ofThree() api.Shard {
	return shard(0, to(1, 2), nil, to(1))
}

// small are shards of few bytes.
func small() []api.Shard {
	return []api.Shard{
		ofThree(),
		shard(0, nil), shard(0, to(1)), shard(0, to(255)), shard(0, to(1, 2, 128, 255)),
		shard(255, nil), shard(255, to(0)), shard(255, to(254)), shard(255, to(0, 1, 127, 254)),
		shard(1, to(0)), shard(127, to(0, 255)), shard(128, to(127, 129)),
		shard(0, nil, nil, nil), shard(253, nil, nil, nil), shard(126, to(127), to(126, 128), to(0, 255)),
		shard(0, nil, to(0), to(0, 1)), shard(0, to(1, 2), to(0), nil), shard(4, to(0, 5), nil, to(4), nil, to(0, 1, 2, 255)),
		ofDegrees(9, 7, 0, 1), ofDegrees(250, 0, 8, 3, 0, 1, 2), mixed(api.Part{From: 100, To: 109}, 20, 1),
	}
}

// few are the small ones, and some whose bytes are many.
func few() []api.Shard {
	return append(small(), most(), shard(0, make([][]int, 256)...), shard(0, first(0, 255)), shard(255, first(255, 255)), ofDegrees(200, 30, 0, 200, 1))
}

// many are shards of all sizes.
func many() []api.Shard {
	l := append(few(), shard(128, first(128, 255)), ofDegrees(0, 255, 0, 255, 1, 254, 128, 127), ofDegrees(240, slices.Repeat([]int{255}, 16)...))
	for seed := range 20 {
		l = append(l, mixed(api.Part{From: 13 * seed, To: 256}, 1+seed*seed*10, seed), mixed(api.Part{From: 0, To: 1 + 13*seed}, 100, seed), mixed(api.Part{From: 0, To: 256}, 200*seed, seed))
	}
	return l
}

// raw is a shard's bytes, all but the sum, thing by thing: each of them may be put another way.
type raw struct {
	letters, from, to, width, degrees, lists, edges string
}

func (r raw) bytes() string {
	return sealed(r.letters + r.from + r.to + r.width + r.degrees + r.lists + r.edges)
}

// sealed tells a text with its sum behind it.
func sealed(text string) string {
	return string(binary.LittleEndian.AppendUint32([]byte(text), crc32.ChecksumIEEE([]byte(text))))
}

// number tells the bytes of one number.
func number(n uint64) string {
	return string(binary.AppendUvarint(nil, n))
}

// longer tells the bytes of a number, and one more than it needs.
func longer(n uint64) string {
	b := binary.AppendUvarint(nil, n)
	b[len(b)-1] |= 128
	return string(append(b, 0))
}

// gapped tells the bytes of a list.
func gapped(l []int) string {
	s := number(uint64(len(l)))
	for k, n := range l {
		if k > 0 {
			n -= l[k-1] + 1
		}
		s += number(uint64(n))
	}
	return s
}

// digits tells the numbers of l in so many binary digits each, one behind the other, the lowest digit first.
func digits(l []int, width int) string {
	var s strings.Builder
	for _, n := range l {
		for range width {
			s.WriteByte('0' + byte(n%2))
			n /= 2
		}
	}
	return s.String()
}

// ofDigits tells the bytes of binary digits, the lowest one of each byte first.
func ofDigits(s string) string {
	var b []byte
	for k, digit := range s {
		if k%8 == 0 {
			b = append(b, 0)
		}
		if digit == '1' {
			b[k/8] += 1 << (k % 8)
		}
	}
	return string(b)
}

// lengths tells how long these lists are.
func lengths(lists [][]int) []int {
	var l []int
	for _, ends := range lists {
		l = append(l, len(ends))
	}
	return l
}

// widthOf tells how many binary digits the greatest one of these numbers has; 0 has none.
func widthOf(l []int) int {
	if slices.Max(l) == 0 {
		return 0
	}
	return len(strconv.FormatInt(int64(slices.Max(l)), 2))
}

// byHand tells a shard's bytes, thing by thing; its numbers are to be 0 at least, and to rise.
func byHand(s api.Shard) raw {
	width := widthOf(lengths(s.Out))
	r := raw{
		letters: "sh", from: number(uint64(s.Part.From)), to: number(uint64(s.Part.To)),
		width: string([]byte{byte(width)}), degrees: ofDigits(digits(lengths(s.Out), width)),
	}
	many := 0
	for _, l := range s.Out {
		r.lists += gapped(l)
		many += len(l)
	}
	r.edges = number(uint64(many))
	return r
}

// mayBe tells whether a shard may be, by a table of the numbers of each list.
func mayBe(s api.Shard) bool {
	p, many := s.Part, 0
	if p.From < 0 || p.From > 255 || p.To > 256 || p.To <= p.From || p.To-p.From != len(s.Out) {
		return false
	}
	for i, l := range s.Out {
		var has [256]bool
		for _, n := range l {
			if n >= 0 && n <= 255 {
				has[n] = true
			}
		}
		var rising []int
		for n, there := range has {
			if there {
				rising = append(rising, n)
			}
		}
		if has[p.From+i] || !slices.Equal(rising, l) {
			return false
		}
		many += len(l)
	}
	return many < 4097
}

// read tells the shard whose bytes are b: it believes what they say of its part and of its lists, writes what it found by hand, and asks whether that is b.
func read(b string) (api.Shard, bool) {
	at := 2
	next := func() int {
		n, size := binary.Uvarint([]byte(b[min(at, len(b)):]))
		if size <= 0 || n > 1000 {
			return -1
		}
		at += size
		return int(n)
	}
	from, end := next(), next()
	if from < 0 || end <= from || end > 256 || at >= len(b) {
		return api.Shard{}, false
	}
	at += 1 + ((end-from)*int(b[at])+7)/8
	lists := make([][]int, end-from)
	for i := range lists {
		ahead := -1
		for range next() {
			gap := next()
			if gap < 0 {
				return api.Shard{}, false
			}
			ahead += 1 + gap
			lists[i] = append(lists[i], ahead)
		}
	}
	s := shard(from, lists...)
	return s, mayBe(s) && byHand(s).bytes() == b
}

// clone tells a copy of s, with what lies behind its lists.
func clone(s api.Shard) api.Shard {
	all := s.Out[:cap(s.Out)]
	out := make([][]int, len(all))
	for i, l := range all {
		out[i] = slices.Clone(l[:cap(l)])[:len(l)]
	}
	return api.Shard{Part: s.Part, Out: out[:len(s.Out)]}
}

// changed tells a copy of s with which something was done.
func changed(s api.Shard, do func(s *api.Shard)) api.Shard {
	s = clone(s)
	do(&s)
	return s
}

// equal tells whether a and b are one shard.
func equal(a, b api.Shard) bool {
	return a.Part == b.Part && slices.EqualFunc(a.Out, b.Out, slices.Equal)
}

// isEmpty tells whether s is the empty shard.
func isEmpty(s api.Shard) bool {
	return s.Part == api.Part{} && len(s.Out) == 0
}

// short tells a value, cut where it is too long to be read.
func short(v any) string {
	s := fmt.Sprint(v)
	return s[:min(len(s), 200)]
}

// wantKept does what is to be done, and fails if s, or what lies behind its lists, is not as it was.
func wantKept(t *testing.T, s api.Shard, do func()) {
	t.Helper()
	was := clone(s)
	do()
	same := len(s.Out) == len(was.Out) && s.Part == was.Part
	for i, l := range s.Out[:cap(s.Out)] {
		same = same && len(l) == len(was.Out[:cap(s.Out)][i]) && slices.Equal(l[:cap(l)], was.Out[:cap(s.Out)][i][:cap(l)])
	}
	if !same {
		t.Errorf("%s has become %s", short(was), short(s))
	}
}

// wantEdgesKept does what is to be done, and fails if l, or what lies behind it, is not as it was.
func wantEdgesKept(t *testing.T, l []api.Edge, do func()) {
	t.Helper()
	was := slices.Clone(l[:cap(l)])
	do()
	if !slices.Equal(l[:cap(l)], was) {
		t.Errorf("%s has become %s", short(was), short(l[:cap(l)]))
	}
}

// wantShard fails unless s may be, has these bytes, and is what they are.
func wantShard(t *testing.T, s api.Shard, want string) {
	t.Helper()
	wantKept(t, s, func() {
		if e := Check(s); e != api.OK {
			t.Errorf("Check(%s): %v, not OK", short(s), e)
		}
		if b, e := Encode(s); b != want || e != api.OK {
			t.Errorf("Encode(%s): %q, %v; not %q, OK", short(s), b, e, want)
		}
	})
	if told, e := Decode(want); !equal(told, s) || e != api.OK {
		t.Errorf("Decode(%q): %s, %v; not %s, OK", want, short(told), e, short(s))
	}
}

// wantRefused fails unless s may not be.
func wantRefused(t *testing.T, s api.Shard) {
	t.Helper()
	wantKept(t, s, func() {
		if e := Check(s); e != api.ErrArg {
			t.Errorf("Check(%s): %v, not ErrArg", short(s), e)
		}
		if b, e := Encode(s); b != "" || e != api.ErrArg {
			t.Errorf("Encode(%s): %q, %v; not nothing, ErrArg", short(s), b, e)
		}
	})
}

// wantNoShard fails unless b are no shard's bytes.
func wantNoShard(t *testing.T, b string) {
	t.Helper()
	if s, e := Decode(b); !isEmpty(s) || e != api.ErrForm {
		t.Errorf("Decode(%s): %s, %v; not nothing, ErrForm", short(strconv.Quote(b)), short(s), e)
	}
}

// wantAsRead fails unless Decode tells of b what read tells.
func wantAsRead(t *testing.T, b string) {
	t.Helper()
	s, ok := read(b)
	if !ok {
		wantNoShard(t, b)
		return
	}
	wantShard(t, s, b)
}

// P10.1: what the document says of Encode and of Check.
func TestDocumentsShard(t *testing.T) {
	wantShard(t, ofThree(), sealed("sh\x00\x03\x02\x12\x02\x01\x00\x00\x01\x01\x03"))
	wantRefused(t, shard(0, to(0), nil, to(1)))
}

// P10.1: bytes by hand, byte by byte, and the sum of one shard, as it is known.
func TestBytesOfShards(t *testing.T) {
	wantShard(t, shard(0, nil), sealed("sh\x00\x01\x00\x00\x00"))
	wantShard(t, shard(0, nil, nil), sealed("sh\x00\x02\x00\x00\x00\x00"))
	wantShard(t, shard(0, to(1)), sealed("sh\x00\x01\x01\x01\x01\x01\x01"))
	wantShard(t, shard(255, to(0)), sealed("sh\xff\x01\x80\x02\x01\x01\x01\x00\x01"))
	wantShard(t, shard(7, to(0, 255)), sealed("sh\x07\x08\x02\x02\x02\x00\xfe\x01\x02"))
	wantShard(t, shard(127, to(128), to(126, 127, 129)), sealed("sh\x7f\x81\x01\x02\x0d\x01\x80\x01\x03\x7e\x00\x01\x04"))
	wantShard(t, shard(1, nil, to(1), nil, to(0, 200), nil), sealed("sh\x01\x06\x02\x84\x00\x00\x01\x01\x00\x02\x00\xc7\x01\x00\x03"))
	b, _ := Encode(ofThree())
	if sum := crc32.ChecksumIEEE([]byte(b)); sum != 0x2144df1c {
		t.Errorf("with its sum behind it, the lowest byte first, the sum of %q is %x", b, sum)
	}
}

// P10.1: shards of all sizes, held against bytes by hand.
func TestShardsOfAllSizes(t *testing.T) {
	for _, s := range many() {
		if !mayBe(s) {
			t.Fatal(short(s))
		}
		wantShard(t, s, byHand(s).bytes())
	}
}

// P10.1: parts of one vertex, each of them, with no edge, with the first one, with the last one, with all.
func TestPartsOfOneVertex(t *testing.T) {
	for v := range 256 {
		for _, l := range [][]int{nil, {}, first(v, 1), last(v, 1), first(v, 255)} {
			wantShard(t, shard(v, l), byHand(shard(v, l)).bytes())
		}
	}
}

// P10.1: all ends of parts beside which the numbers have one byte more, and the first and last ones.
func TestPartsOfAllSizes(t *testing.T) {
	ends := []int{0, 1, 2, 3, 63, 64, 126, 127, 128, 129, 130, 254, 255, 256}
	for seed, from := range ends {
		for _, end := range ends[seed+1:] {
			s := mixed(api.Part{From: from, To: end}, 60, seed)
			wantShard(t, s, byHand(s).bytes())
			none := shard(from, make([][]int, end-from)...)
			wantShard(t, none, byHand(none).bytes())
		}
	}
}

// P10.1: empty lists at all places that there may be among five.
func TestEmptyLists(t *testing.T) {
	for bits := range 32 {
		s := shard(10, to(1), to(1, 2, 3), to(0, 255), to(254, 255), to(13, 15))
		for i := range s.Out {
			if bits>>i&1 == 1 {
				s.Out[i] = nil
			}
		}
		wantShard(t, s, byHand(s).bytes())
		for i := range s.Out {
			if bits>>i&1 == 1 {
				s.Out[i] = []int{}
			}
		}
		wantShard(t, s, byHand(s).bytes())
	}
}

// P10.1: each degree that there may be, alone and among others; the width is how many binary digits the greatest one has.
func TestEachDegree(t *testing.T) {
	width := 0
	for degree := range 256 {
		if degree == 1<<width {
			width++
		}
		for _, s := range []api.Shard{ofDegrees(0, degree), ofDegrees(255, degree), ofDegrees(3, 0, degree, 0), ofDegrees(100, degree, degree/2, 0, 0, degree), ofDegrees(200, 0, 0, 0, 0, 0, 0, 0, degree/3, degree)} {
			b := byHand(s).bytes()
			wantShard(t, s, b)
			at := 2 + len(number(uint64(s.Part.From))) + len(number(uint64(s.Part.To)))
			if int(b[at]) != width {
				t.Errorf("the width of %s is %d, not %d", short(s), b[at], width)
			}
		}
	}
	if width != 8 {
		t.Errorf("the greatest degree has %d digits", width)
	}
}

// P10.1: 4096 numbers together, and one more in each of the lists.
func TestMostNumbers(t *testing.T) {
	wantShard(t, most(), byHand(most()).bytes())
	for i := range 256 {
		s := changed(most(), func(s *api.Shard) { s.Out[i] = first(i, 17) })
		wantRefused(t, s)
		wantNoShard(t, byHand(s).bytes())
	}
	seventeen := append(slices.Repeat([]int{255}, 16), 16)
	for from := 0; from <= 256-17; from += 17 {
		s := ofDegrees(from, seventeen...)
		wantShard(t, s, byHand(s).bytes())
		more := changed(s, func(s *api.Shard) { s.Out[16] = last(from+16, 17) })
		wantRefused(t, more)
		wantNoShard(t, byHand(more).bytes())
		less := changed(s, func(s *api.Shard) { s.Out[0] = s.Out[0][1:] })
		wantShard(t, less, byHand(less).bytes())
	}
	wantRefused(t, ofDegrees(0, slices.Repeat([]int{255}, 256)...))
	wantRefused(t, ofDegrees(0, slices.Repeat([]int{255}, 17)...))
}

// P10.1: parts that may not be, with as many lists as they have vertices, where there can be such a number, and with others.
func TestWrongPartsAreRefused(t *testing.T) {
	for _, p := range wrongParts {
		for _, many := range []int{0, 1, 2, 3, 4, 255, 256, 257, 258, p.To - p.From} {
			if many >= 0 && many < 1000 {
				wantRefused(t, api.Shard{Part: p, Out: make([][]int, many)})
				wantRefused(t, api.Shard{Part: p, Out: slices.Repeat([][]int{to(9)}, many)})
			}
		}
	}
}

// P10.1: more lists than vertices, and fewer; none at all.
func TestWrongNumbersOfListsAreRefused(t *testing.T) {
	wantRefused(t, api.Shard{})
	for from := range 256 {
		for _, end := range []int{from + 1, from + 2, from + 3, (from + 257) / 2, 255, 256} {
			if end <= from || end > 256 {
				continue
			}
			p := api.Part{From: from, To: end}
			wantRefused(t, api.Shard{Part: p})
			wantRefused(t, api.Shard{Part: p, Out: [][]int{}})
			for _, many := range []int{1, 2, 3, end - from - 1, end - from + 1, 2 * (end - from), end, 255, 256, 257, 5000} {
				if many != end-from {
					wantRefused(t, api.Shard{Part: p, Out: make([][]int, many)})
				}
			}
			wantShard(t, api.Shard{Part: p, Out: make([][]int, end-from)}, byHand(api.Shard{Part: p, Out: make([][]int, end-from)}).bytes())
		}
	}
	wantRefused(t, changed(ofThree(), func(s *api.Shard) { s.Out = s.Out[:2] }))
	wantRefused(t, changed(ofThree(), func(s *api.Shard) { s.Out = append(s.Out, nil) }))
	wantRefused(t, changed(ofThree(), func(s *api.Shard) { s.Part.From = 1 }))
	wantRefused(t, changed(ofThree(), func(s *api.Shard) { s.Part.To = 4 }))
}

// wrongLists are lists of ends that edges from v may not have.
func wrongLists(v int) [][]int {
	other := first(v, 3)
	return [][]int{
		{other[1], other[0]}, {other[0], other[2], other[1]}, {other[2], other[1], other[0]}, {255, 0}, // do not rise
		{other[0], other[0]}, {other[0], other[1], other[1]}, {other[0], other[0], other[1]}, // a number twice
		{-1}, {-1, other[0]}, {other[0], -1}, {-256}, {math.MinInt}, {math.MinInt, other[0]}, {math.MinInt + 1, math.MaxInt}, // below 0
		{256}, {other[0], 256}, {257}, {other[0], 300, 301}, {1 << 32}, {1<<32 + other[0]}, {math.MaxInt}, {other[0], math.MaxInt}, {math.MaxInt - 1, math.MaxInt}, // above 255
		{v}, first(-1, v+1), last(-1, 256-v), first(-1, 256), // the vertex itself
		first(v, 256), append(first(v, 255), 256), first(-1, 257), append([]int{-1}, first(v, 255)...), // too many
		slices.Repeat([]int{other[0]}, 5000), // far too many
	}
}

// P10.1: a wrong list, alone, and first, in the middle and last among others.
func TestWrongListsAreRefused(t *testing.T) {
	for _, v := range []int{0, 1, 2, 100, 127, 128, 253, 254, 255} {
		for _, wrong := range wrongLists(v) {
			wantRefused(t, shard(v, wrong))
			if v >= 2 {
				wantRefused(t, shard(v-2, nil, to(0, 100, 101), wrong))
			}
			if v <= 253 {
				wantRefused(t, shard(v, wrong, nil, to(200)))
			}
			if v >= 1 && v <= 254 {
				wantRefused(t, shard(v-1, nil, wrong, nil))
			}
		}
	}
}

// shortLists are all lists of at most two of these numbers.
func shortLists(numbers ...int) [][]int {
	l := [][]int{nil}
	for _, a := range numbers {
		l = append(l, to(a))
		for _, b := range numbers {
			l = append(l, to(a, b))
		}
	}
	return l
}

// P10.1: all shards of two vertices whose lists have at most two numbers, near 0 and near 255.
func TestEachShortShard(t *testing.T) {
	for from, numbers := range map[int][]int{-1: {-1, 0, 1}, 0: {-1, 0, 1, 2, 255, 256}, 1: {0, 1, 2, 3}, 254: {-1, 0, 253, 254, 255, 256}, 255: {0, 254, 255, 256, 257}} {
		for _, a := range shortLists(numbers...) {
			for _, b := range shortLists(numbers...) {
				for _, s := range []api.Shard{shard(from, a, b), {Part: api.Part{From: from, To: from + 1}, Out: [][]int{a, b}}, {Part: api.Part{From: from, To: from + 3}, Out: [][]int{a, b}}} {
					if mayBe(s) {
						wantShard(t, s, byHand(s).bytes())
					} else {
						wantRefused(t, s)
					}
				}
			}
		}
	}
}

// P10.1: texts that are no shard's bytes at all.
func TestOtherTextsAreNoShard(t *testing.T) {
	for _, s := range []string{"", "s", "h", "sh", "shs", "shsh", "\x00", "\x00\x00\x00\x00", "sh\x00\x01\x00\x00\x00", strings.Repeat("\x00", 100), strings.Repeat("\xff", 100), strings.Repeat("sh", 10000)} {
		wantNoShard(t, s)
		wantNoShard(t, sealed(s)[:len(s)])
		if s != "sh\x00\x01\x00\x00\x00" {
			wantNoShard(t, sealed(s))
		}
	}
}

// P10.1: the sum in another order, of other bytes, of the letters not.
func TestWrongSumsAreNoShard(t *testing.T) {
	for _, s := range small() {
		b := byHand(s).bytes()
		body, sum := b[:len(b)-4], []byte(b[len(b)-4:])
		slices.Reverse(sum)
		wantNoShard(t, body+string(sum))
		wantNoShard(t, body+"\x00\x00\x00\x00")
		wantNoShard(t, body+sealed(body[2:])[len(body)-2:])
		wantNoShard(t, body+sealed(body[:len(body)-1])[len(body)-1:])
		wantNoShard(t, body+sealed(b)[len(b):])
	}
}

// P10.1: other letters, whose sum is right.
func TestOtherLettersAreNoShard(t *testing.T) {
	for _, s := range small() {
		r := byHand(s)
		for _, letters := range []string{"", "s", "h", "hs", "Sh", "sH", "SH", "ss", "hh", "shs", "shh", "ssh", "sh ", " sh", "mf", "\x00\x00", "s\x00", "\x00h", "sh\x00"} {
			r.letters = letters
			wantNoShard(t, r.bytes())
		}
	}
}

// otherNumbers are the bytes of all numbers but n that may stand there, of n in more bytes than it needs, and of what is no number.
func otherNumbers(n uint64) []string {
	l := []string{"", "\x80", "\xff\xff", longer(n), longer(n)[:len(longer(n))-1] + "\x80\x00", strings.Repeat("\xff", 9) + "\x02", strings.Repeat("\x80", 10) + "\x01"}
	for m := range uint64(600) {
		if m != n {
			l = append(l, number(m))
		}
	}
	for _, m := range []uint64{4095, 4096, 4097, 1 << 16, 1 << 32, 1<<32 + n, 1<<63 - 2, 1<<63 - 1, 1 << 63, 1<<63 + n, 1<<64 - 1, -n, ^n} {
		if m != n {
			l = append(l, number(m))
		}
	}
	return l
}

// P10.1: another From, another To, another number of edges; their bytes longer than they need to be; the greatest numbers.
func TestWrongNumbersAreNoShard(t *testing.T) {
	for _, s := range few() {
		r := byHand(s)
		for _, other := range otherNumbers(uint64(s.Part.From)) {
			wrong := r
			wrong.from = other
			wantNoShard(t, wrong.bytes())
			if other != "" {
				wrong.to = other
				wantNoShard(t, wrong.bytes())
			}
		}
		for _, other := range otherNumbers(uint64(s.Part.To)) {
			wrong := r
			wrong.to = other
			wantNoShard(t, wrong.bytes())
		}
		for _, other := range otherNumbers(uint64(len(Edges(s)))) {
			wrong := r
			wrong.edges = other
			wantNoShard(t, wrong.bytes())
		}
	}
}

// P10.1: parts that may not be, all other things as they are.
func TestBytesOfWrongPartsAreNoShard(t *testing.T) {
	for _, p := range wrongParts {
		r := byHand(shard(0, nil))
		r.from, r.to = number(uint64(p.From)), number(uint64(p.To))
		for many := range 260 {
			r.lists = strings.Repeat("\x00", many)
			wantNoShard(t, r.bytes())
		}
	}
}

// P10.1: each other width, with the bytes as they were, and with those that the degrees have in so many bits.
func TestWrongWidthsAreNoShard(t *testing.T) {
	for _, s := range few() {
		r, right := byHand(s), widthOf(lengths(s.Out))
		for width := range 256 {
			if width == right {
				continue
			}
			r.width = string([]byte{byte(width)})
			r.degrees = byHand(s).degrees
			wantNoShard(t, r.bytes())
			r.degrees = ofDigits(digits(lengths(s.Out), width))
			wantNoShard(t, r.bytes())
		}
		r.width = ""
		wantNoShard(t, r.bytes())
	}
}

// P10.1: bits behind the degrees that are not zero, and bytes behind them.
func TestBitsBehindDegreesAreNoShard(t *testing.T) {
	for _, s := range many() {
		r := byHand(s)
		all := digits(lengths(s.Out), widthOf(lengths(s.Out)))
		for k := len(all); k%8 != 0; k++ {
			r.degrees = ofDigits(all + strings.Repeat("0", k-len(all)) + "1")
			wantNoShard(t, r.bytes())
		}
		r.degrees = ofDigits(all) + "\x00"
		wantNoShard(t, r.bytes())
		r.degrees = "\x00" + ofDigits(all)
		wantNoShard(t, r.bytes())
		if all != "" {
			r.degrees = ofDigits(all)[1:]
			wantNoShard(t, r.bytes())
		}
	}
}

// P10.1: degrees that are not those of the lists: one is another one, or two are exchanged.
func TestWrongDegreesAreNoShard(t *testing.T) {
	for _, s := range small() {
		r, degrees := byHand(s), lengths(s.Out)
		for width := range 10 {
			for i := range degrees {
				for degree := range 1 << width {
					other := slices.Clone(degrees)
					other[i] = degree
					wantDegrees(t, r, degrees, other, width)
				}
				for j := range i {
					other := slices.Clone(degrees)
					other[i], other[j] = other[j], other[i]
					wantDegrees(t, r, degrees, other, width)
				}
			}
		}
	}
	// As many numbers together, and the same width.
	wantDegrees(t, byHand(ofThree()), to(2, 0, 1), to(1, 0, 2), 2)
	wantDegrees(t, byHand(ofThree()), to(2, 0, 1), to(2, 1, 0), 2)
	wantDegrees(t, byHand(ofThree()), to(2, 0, 1), to(0, 1, 2), 2)
}

// wantDegrees puts other degrees, in so many bits, in the place of the right ones, and fails if that is a shard.
func wantDegrees(t *testing.T, r raw, right, other []int, width int) {
	t.Helper()
	if slices.Equal(right, other) {
		return
	}
	r.width, r.degrees = string([]byte{byte(width)}), ofDigits(digits(other, width))
	wantNoShard(t, r.bytes())
}

// P10.1: lists that may not be, with degrees, number of edges and sum as they ask for.
func TestBytesOfWrongListsAreNoShard(t *testing.T) {
	for _, v := range []int{0, 1, 127, 128, 254, 255} {
		for _, wrong := range wrongLists(v) {
			if !slices.IsSorted(wrong) || len(slices.Compact(slices.Clone(wrong))) < len(wrong) || wrong[0] < 0 {
				continue // it has no bytes
			}
			wantNoShard(t, byHand(shard(v, wrong)).bytes())
			if v > 0 {
				wantNoShard(t, byHand(shard(v-1, to(v+1), wrong)).bytes())
			}
			if v < 255 {
				wantNoShard(t, byHand(shard(v, wrong, nil)).bytes())
			}
		}
	}
	for _, s := range many() {
		r := byHand(s)
		for _, lists := range []string{"", r.lists + "\x00", "\x00" + r.lists, r.lists[1:], r.lists[:len(r.lists)-1], longer(uint64(r.lists[0])) + r.lists[1:], r.lists + r.lists} {
			r.lists = lists
			wantNoShard(t, r.bytes())
		}
	}
}

// P10.1: lists whose bytes are no list's, of a vertex of degree 2.
func TestBytesOfNoListAreNoShard(t *testing.T) {
	r := byHand(shard(5, to(1, 9)))
	if r.lists != "\x02\x01\x07" {
		t.Fatalf("%q", r.lists)
	}
	for _, lists := range []string{
		"\x01\x01", "\x03\x01\x07\x01", "\x00", "\x00\x00", "\x02\x01", "\x02", // of other lengths
		"\x82\x00\x01\x07", "\x02\x81\x00\x07", "\x02\x01\x87\x00", // of longer numbers
		"\x02\x01\x03", "\x02\x05\x00", "\x02\x04\x00", // with the vertex itself
		"\x02\x01\xfe\x01", "\x02\x80\x02\x00", "\x02\xff\x01\x00", // above 255
		"\x02" + number(math.MaxInt) + "\x00", "\x02\x00" + number(math.MaxInt), "\x02" + number(math.MaxInt) + number(math.MaxInt), // beyond all
		"\x02\x00" + number(math.MaxInt-1), "\x02\x00" + number(math.MaxInt-2), "\x02\x00" + number(1<<64-1), "\x02\x00" + number(1<<63),
		number(math.MaxInt) + "\x01\x07", number(1<<32+2) + "\x01\x07", number(1<<64-1) + "\x01\x07", // far too long
	} {
		r.lists = lists
		wantNoShard(t, r.bytes())
	}
}

// P10.1: each byte put to each other value; the sum as it was, and as it is to be then.
func TestEachByteChanged(t *testing.T) {
	for _, s := range small() {
		b := byHand(s).bytes()
		for i := range b {
			for x := 1; x < 256; x++ {
				wrong := []byte(b)
				wrong[i] ^= byte(x)
				wantNoShard(t, string(wrong))
				if i < len(b)-4 {
					wantAsRead(t, sealed(string(wrong[:len(b)-4])))
				}
			}
		}
	}
}

// P10.1: each end cut off, each beginning, each byte in between; the sum as it was, and as it is to be then.
func TestEachEndCutOff(t *testing.T) {
	for _, s := range few() {
		b := byHand(s).bytes()
		step := 1 + len(b)/300
		for i := 0; i < len(b); i += step {
			wantNoShard(t, b[:i])
			wantNoShard(t, b[i+1:])
			wantNoShard(t, b[:i]+b[i+1:])
			if i < len(b)-4 {
				wantNoShard(t, sealed(b[:i]))
				wantAsRead(t, sealed(b[:i]+b[i+1:len(b)-4]))
			}
		}
		for cut := 1; cut <= 8; cut++ {
			wantNoShard(t, b[:len(b)-cut])
		}
	}
}

// P10.1: something put behind, ahead, and within; the sum as it was, and as it is to be then.
func TestSomethingMore(t *testing.T) {
	for _, s := range small() {
		b := byHand(s).bytes()
		body := b[:len(b)-4]
		for x := range 256 {
			more := string([]byte{byte(x)})
			wantNoShard(t, b+more)
			wantNoShard(t, more+b)
			wantNoShard(t, sealed(body+more))
			wantNoShard(t, sealed(b+more))
			for i := range len(body) {
				wantAsRead(t, sealed(body[:i]+more+body[i:]))
			}
		}
		for _, more := range []string{b, body, b[len(b)-4:], "\x00\x00\x00\x00", strings.Repeat("\x00", 1000), "sh"} {
			wantNoShard(t, b+more)
			wantNoShard(t, more+b)
			wantNoShard(t, sealed(body+more))
			wantNoShard(t, sealed(b+more))
		}
	}
}

// P10.1: all texts of at most seven of a few bytes behind the letters, with the right sum.
func TestEachShortText(t *testing.T) {
	var each func(text string, left int)
	each = func(text string, left int) {
		wantAsRead(t, sealed("sh"+text))
		for k := range 5 * min(left, 1) {
			each(text+"\x00\x01\x02\x03\x80"[k:k+1], left-1)
		}
	}
	each("", 7)
}

// byTable tells what Make is to tell, by a table of all ends.
func byTable(l []api.Edge, p api.Part) api.Shard {
	if p.From < 0 || p.To <= p.From || p.To > 256 {
		return api.Shard{}
	}
	s := api.Shard{Part: p}
	for v := p.From; v < p.To; v++ {
		ends := map[int]bool{}
		for _, edge := range l {
			if edge.From == v {
				ends[edge.To] = true
			}
		}
		s.Out = append(s.Out, slices.Sorted(maps.Keys(ends)))
	}
	return s
}

func wantMade(t *testing.T, l []api.Edge, p api.Part, want api.Shard) {
	t.Helper()
	wantEdgesKept(t, l, func() {
		if s := Make(l, p); !equal(s, want) {
			t.Errorf("Make(%s, %v): %s, not %s", short(l), p, short(s), short(want))
		}
	})
}

func wantEdges(t *testing.T, s api.Shard, want []api.Edge) {
	t.Helper()
	wantKept(t, s, func() {
		if l := Edges(s); !slices.Equal(l, want) {
			t.Errorf("Edges(%s): %s, not %s", short(s), short(l), short(want))
		}
	})
}

// P10.2: what the document says of Make, and the same of Edges.
func TestDocumentsEdges(t *testing.T) {
	l := list(0, 1, 0, 2, 2, 1)
	wantMade(t, l, api.Part{From: 0, To: 3}, ofThree())
	wantEdges(t, ofThree(), l)
}

// P10.2: edges that begin outside of the part are not in its shard, wherever they lead.
func TestEdgesOfOtherParts(t *testing.T) {
	l := list(0, 1, 1, 2, 2, 3, 3, 4, 4, 0, 3, 0, 2, 0)
	wantMade(t, l, api.Part{From: 0, To: 1}, shard(0, to(1)))
	wantMade(t, l, api.Part{From: 1, To: 3}, shard(1, to(2), to(0, 3)))
	wantMade(t, l, api.Part{From: 2, To: 4}, shard(2, to(0, 3), to(0, 4)))
	wantMade(t, l, api.Part{From: 4, To: 6}, shard(4, to(0), nil))
	wantMade(t, l, api.Part{From: 5, To: 256}, shard(5, make([][]int, 251)...))
	wantMade(t, l, api.Part{From: 255, To: 256}, shard(255, nil))
}

// P10.2: no edges make a shard without any.
func TestNoEdges(t *testing.T) {
	for _, l := range [][]api.Edge{nil, {}, make([]api.Edge, 0, 9)} {
		for _, p := range []api.Part{{From: 0, To: 1}, {From: 255, To: 256}, {From: 3, To: 7}, {From: 0, To: 256}} {
			wantMade(t, l, p, shard(p.From, make([][]int, p.To-p.From)...))
			wantEdges(t, Make(l, p), nil)
		}
	}
}

// P10.2: edges in any order, and more than once, make one and the same shard.
func TestEdgesInAnyOrder(t *testing.T) {
	l := list(0, 1, 0, 2, 0, 255, 1, 0, 2, 0, 2, 1)
	p := api.Part{From: 0, To: 3}
	want := shard(0, to(1, 2, 255), to(0), to(0, 1))
	for seed := range 200 {
		r := rand.New(rand.NewPCG(100, uint64(seed)))
		mixed := slices.Clone(l)
		for range r.IntN(10) {
			mixed = append(mixed, l[r.IntN(len(l))], api.Edge{From: 3 + r.IntN(5), To: r.IntN(9)})
		}
		r.Shuffle(len(mixed), func(i, j int) { mixed[i], mixed[j] = mixed[j], mixed[i] })
		wantMade(t, mixed, p, want)
	}
	slices.Reverse(l)
	wantMade(t, l, p, want)
	wantMade(t, slices.Repeat(l, 3000), p, want)
}

// P10.2: a part that may not be makes the empty shard, whichever edges there are.
func TestWrongPartsMakeTheEmptyShard(t *testing.T) {
	for _, p := range wrongParts {
		for _, l := range [][]api.Edge{nil, list(0, 1, 0, 2, 2, 1), list(-1, 0, 255, 0, 256, 0), list(p.From, 0, p.To-1, 3, p.To, 1), list(math.MinInt, 0, math.MaxInt, 0)} {
			wantMade(t, l, p, api.Shard{})
		}
	}
}

// P10.2: ends that are no vertices, or where the edge begins, stand in the lists as they are; beginnings that are none are in no part.
func TestEdgesOfNoVertices(t *testing.T) {
	least, greatest := math.MinInt, math.MaxInt
	l := list(0, greatest, 0, -1, 0, least, 0, 256, 0, 0, 0, 7, least, 1, -1, 1, 256, 1, greatest, 1, 1<<32, 1, 255, 255, 255, greatest, 255, greatest)
	wantMade(t, l, api.Part{From: 0, To: 2}, shard(0, to(least, -1, 0, 7, 256, greatest), nil))
	wantMade(t, l, api.Part{From: 254, To: 256}, shard(254, nil, to(255, greatest)))
	wantMade(t, l, api.Part{From: 1, To: 3}, shard(1, nil, nil))
	wantMade(t, list(3, 3), api.Part{From: 3, To: 4}, shard(3, to(3)))
	wantMade(t, list(3, -3, 3, -4, 3, -3), api.Part{From: 3, To: 4}, shard(3, to(-4, -3)))
}

// P10.2: more edges than a graph may have are all there.
func TestMoreEdgesThanMayBe(t *testing.T) {
	var l []api.Edge
	for from := range 256 {
		for end := range 256 {
			l = append(l, api.Edge{From: end, To: 255 - from})
		}
	}
	for _, p := range []api.Part{{From: 0, To: 256}, {From: 0, To: 17}, {From: 255, To: 256}} {
		wantMade(t, l, p, shard(p.From, slices.Repeat([][]int{first(-1, 256)}, p.To-p.From)...))
	}
}

// P10.2: all lists of at most three edges of three vertices and two numbers beside, in all parts.
func TestEachShortListOfEdges(t *testing.T) {
	each := list()
	for from := -1; from <= 3; from++ {
		for end := -1; end <= 3; end += 2 {
			each = append(each, api.Edge{From: from, To: end})
		}
	}
	for _, p := range []api.Part{{From: 0, To: 1}, {From: 0, To: 3}, {From: 1, To: 3}, {From: 3, To: 4}} {
		for _, a := range each {
			for _, b := range each {
				for _, c := range each {
					l := []api.Edge{a, b, c}
					wantMade(t, l, p, byTable(l, p))
				}
			}
		}
	}
}

// P10.2: Edges tells list by list, in order, whether the shard may be or not.
func TestEdgesOfAnyShard(t *testing.T) {
	wantEdges(t, api.Shard{}, nil)
	wantEdges(t, api.Shard{Out: [][]int{}}, nil)
	wantEdges(t, api.Shard{Part: api.Part{From: 3, To: 5}}, nil)
	wantEdges(t, api.Shard{Part: api.Part{From: 3, To: 5}, Out: [][]int{nil, {}}}, nil)
	wantEdges(t, api.Shard{Out: [][]int{{1}, nil, {0}}}, list(0, 1, 2, 0))
	wantEdges(t, shard(7, to(7, 3, 3, -1)), list(7, 7, 7, 3, 7, 3, 7, -1))
	wantEdges(t, api.Shard{Part: api.Part{From: 3, To: 4}, Out: [][]int{{0}, {1}, {2}}}, list(3, 0, 4, 1, 5, 2))
	wantEdges(t, api.Shard{Part: api.Part{From: 3, To: 9}, Out: [][]int{{0}, {1}}}, list(3, 0, 4, 1))
	wantEdges(t, api.Shard{Part: api.Part{From: 9, To: 3}, Out: [][]int{{0}, {1}}}, list(9, 0, 10, 1))
	wantEdges(t, api.Shard{Part: api.Part{From: -2, To: 500}, Out: [][]int{{5}, {math.MinInt, math.MaxInt}, {4, 3}}}, list(-2, 5, -1, math.MinInt, -1, math.MaxInt, 0, 4, 0, 3))
	wantEdges(t, api.Shard{Part: api.Part{From: math.MinInt, To: math.MaxInt}, Out: [][]int{{1}, {2}}}, list(math.MinInt, 1, math.MinInt+1, 2))
	wantEdges(t, api.Shard{Part: api.Part{From: math.MaxInt, To: math.MinInt}, Out: [][]int{{1, 2}}}, list(math.MaxInt, 1, math.MaxInt, 2))
	if l := Edges(api.Shard{Part: api.Part{From: math.MaxInt}, Out: [][]int{{1}, {2}}}); len(l) != 2 || l[0] != (api.Edge{From: math.MaxInt, To: 1}) || l[1].To != 2 {
		t.Error(l)
	}
}

// graphs are normal lists of n vertices.
func graphs(t *testing.T, n int) [][]api.Edge {
	t.Helper()
	var l [][]api.Edge
	for seed := range 4 {
		r := rand.New(rand.NewPCG(1000, uint64(n)))
		var some []api.Edge
		for range min(n-1, 1) * 5 * n * seed {
			from := r.IntN(n)
			some = append(some, api.Edge{From: from, To: (from + 1 + r.IntN(n-1)) % n})
		}
		normal, e := edges.Normal(n, some)
		if e != api.OK {
			t.Fatal(n, seed, e)
		}
		l = append(l, normal)
	}
	return l
}

// unlike are n vertices in s parts of any sizes.
func unlike(n, s int) []api.Part {
	r := rand.New(rand.NewPCG(uint64(n), uint64(s)))
	ends := append(r.Perm(n - 1)[:s-1], n-1)
	slices.Sort(ends)
	var l []api.Part
	from := 0
	for _, end := range ends {
		l = append(l, api.Part{From: from, To: end + 1})
		from = end + 1
	}
	return l
}

// wantAllEdges fails unless the shards of all these parts have all edges of l, in order, and are made of what they tell.
func wantAllEdges(t *testing.T, l []api.Edge, all []api.Part) {
	t.Helper()
	var told []api.Edge
	for _, p := range all {
		s := Make(l, p)
		inPart := slices.DeleteFunc(slices.Clone(l), func(edge api.Edge) bool { return edge.From < p.From || edge.From >= p.To })
		wantEdges(t, s, inPart)
		wantMade(t, inPart, p, s)
		wantMade(t, l, p, byTable(inPart, p))
		wantShard(t, s, byHand(s).bytes())
		told = append(told, Edges(s)...)
	}
	if !slices.Equal(told, l) {
		t.Errorf("the shards of %v have %s, not %s", all, short(told), short(l))
	}
}

// P10.2, P10.3: the shards of all parts have all edges of a normal list, in order; for every number of parts that may be.
func TestShardsOfAllParts(t *testing.T) {
	for _, n := range []int{1, 2, 3, 5, 15, 16, 17, 100, 128, 255, 256} {
		for _, l := range graphs(t, n) {
			for s := 1; s <= min(n, 16); s++ {
				all, e := parts.Cut(n, s)
				if e != api.OK {
					t.Fatal(n, s, e)
				}
				wantAllEdges(t, l, all)
				wantAllEdges(t, l, unlike(n, s))
			}
		}
	}
	full, e := edges.Normal(256, Edges(most()))
	if e != api.OK || len(full) != 4096 {
		t.Fatal(len(full), e)
	}
	for s := 1; s <= 16; s++ {
		wantAllEdges(t, full, unlike(256, s))
	}
}

// P10.3: what is encoded is decoded, what is decoded was encoded so.
func TestThereAndBack(t *testing.T) {
	for _, s := range many() {
		b, e := Encode(s)
		if e != api.OK {
			t.Fatal(short(s), e)
		}
		told, e := Decode(b)
		if !equal(told, s) || e != api.OK {
			t.Errorf("%s has become %s, %v", short(s), short(told), e)
		}
		if again, e := Encode(told); again != b || e != api.OK {
			t.Errorf("%q has become %q, %v", b, again, e)
		}
		if made := Make(Edges(s), s.Part); !equal(made, s) {
			t.Errorf("of its edges %s has become %s", short(s), short(made))
		}
	}
}

// patterns are bits of four bytes that are turned over: one, two, all, the first ones, the last ones, and others.
func patterns() []uint32 {
	r := rand.New(rand.NewPCG(4, 32))
	l := []uint32{0xffffffff, 0xedb88320, 0x04c11db7, 0x2144df1c}
	for i := range 32 {
		l = append(l, 0xffffffff<<i, 0xffffffff>>i, r.Uint32(), r.Uint32(), r.Uint32())
		for j := range i + 1 {
			l = append(l, 1<<i|1<<j)
		}
	}
	return slices.DeleteFunc(l, func(x uint32) bool { return x == 0 })
}

// turned tells b with the bits of x turned over, from the byte i on; those that would be behind b are left out.
func turned(b string, i int, x uint32) string {
	l := []byte(b)
	for k := 0; k < 4 && i+k < len(b); k++ {
		l[i+k] ^= byte(x >> (8 * k))
	}
	return string(l)
}

// P10.3: bits within four bytes, side by side, turned over, from every byte on.
func TestBitsWithinFourBytes(t *testing.T) {
	all := patterns()
	for k, s := range few() {
		b := byHand(s).bytes()
		some := all
		if len(b) > 100 {
			some = []uint32{all[k%len(all)]}
		}
		for i := range b {
			for _, x := range some {
				if wrong := turned(b, i, x); wrong != b {
					wantNoShard(t, wrong)
				}
			}
		}
	}
}

// spoil writes over all lists of a shard, and what lies behind them.
func spoil(s api.Shard) {
	for _, l := range s.Out {
		for k := range l[:cap(l)] {
			l[:cap(l)][k] = -99
		}
	}
	for i := range s.Out[:cap(s.Out)] {
		s.Out[:cap(s.Out)][i] = nil
	}
}

// wantApart fails if writing over one list of s, and behind it, changes another one.
func wantApart(t *testing.T, s api.Shard) {
	t.Helper()
	was := clone(s)
	for i, l := range s.Out {
		for k := range l[:cap(l)] {
			l[:cap(l)][k] = -99
		}
		for j := i + 1; j < len(s.Out); j++ {
			if !slices.Equal(s.Out[j], was.Out[j]) {
				t.Errorf("of %s the lists %d and %d share memory", short(was), i, j)
			}
		}
	}
}

// R4: what is told is new memory: whatever is written to it, what is told later, or was told ahead, is as it was.
func TestToldIsNew(t *testing.T) {
	for _, s := range many() {
		b := byHand(s).bytes()
		l := Edges(s)
		was, ofL, ofB := slices.Clone(l), Make(l, s.Part), clone(s)
		spoiled := Make(l, s.Part)
		spoil(spoiled)
		if !slices.Equal(l, was) || !equal(ofL, s) || !equal(Make(l, s.Part), s) {
			t.Errorf("of %s what Make tells shares memory", short(s))
		}
		decoded, _ := Decode(b)
		other, _ := Decode(b)
		spoil(decoded)
		if again, _ := Decode(b); !equal(other, ofB) || !equal(again, ofB) {
			t.Errorf("of %s what Decode tells shares memory", short(s))
		}
		toldEdges := Edges(s)
		for k := range toldEdges {
			toldEdges[k] = api.Edge{From: -9, To: -9}
		}
		if !equal(s, ofB) || !slices.Equal(l, was) || !slices.Equal(Edges(s), was) {
			t.Errorf("of %s what Edges tells shares memory", short(s))
		}
		wantApart(t, Make(l, s.Part))
		wantApart(t, other)
	}
}

// R4: what is handed in is not looked at later.
func TestHandedInIsNotLookedAtLater(t *testing.T) {
	for _, s := range many() {
		l, b := Edges(s), byHand(s).bytes()
		given := clone(s)
		told, _ := Encode(given)
		edgesOf := Edges(given)
		spoil(given)
		made := Make(l, s.Part)
		want := clone(s)
		for k := range l {
			l[k] = api.Edge{From: s.Part.From, To: -5}
		}
		if told != b || !equal(made, want) || !slices.Equal(edgesOf, Edges(s)) {
			t.Errorf("%s is looked at later", short(s))
		}
	}
}

// R4: what lies behind a list is no part of it, and stays.
func TestWhatLiesBehindAList(t *testing.T) {
	lists := [][]int{{1, 2, 0}, {0, 9}, {1, 1}, {7}}
	for i := range 3 {
		lists[i] = lists[i][:2-i%2*2]
	}
	lists[2] = lists[2][:1]
	s := api.Shard{Part: api.Part{From: 0, To: 3}, Out: lists[:3]}
	wantShard(t, s, byHand(ofThree()).bytes())
	wantEdges(t, s, list(0, 1, 0, 2, 2, 1))
	l := list(0, 1, 0, 2, 2, 1, 1, 2, 0, 0)
	wantMade(t, l[:3], api.Part{From: 0, To: 3}, ofThree())
}

// FuzzShards: of whatever bytes, with their sum and without, Decode tells what going through them tells; of whatever edges, Make and Edges tell what a table tells.
func FuzzShards(f *testing.F) {
	for _, s := range small() {
		b := byHand(s).bytes()
		f.Add(b[:len(b)-4], s.Part.From, s.Part.To)
	}
	f.Add("sh\x00\x02\x02\x06\x02\x01\x00\x01\x00\x03", 0, 1)
	f.Add("", -1, 3)
	f.Add("sh", 0, 257)
	f.Fuzz(func(t *testing.T, text string, from, end int) {
		wantAsRead(t, sealed(text))
		wantAsRead(t, text)
		// Longer texts tell nothing new, and take long.
		text = text[:min(len(text), 200)]
		var l []api.Edge
		for ; len(text) >= 2; text = text[2:] {
			l = append(l, api.Edge{From: int(int8(text[0])), To: int(int8(text[1]))})
		}
		p := api.Part{From: from, To: end}
		want := byTable(l, p)
		wantMade(t, l, p, want)
		if mayBe(want) {
			wantShard(t, want, byHand(want).bytes())
		} else {
			wantRefused(t, want)
		}
	})
}
