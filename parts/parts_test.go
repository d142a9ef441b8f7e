package parts

import (
	"fmt"
	"math"
	"math/rand/v2"
	"slices"
	"testing"

	"carousel/api"
)

// wrongMany are no numbers of vertices.
var wrongMany = []int{0, -1, -2, -10, -16, -255, -256, -257, -1 << 32, math.MinInt, math.MinInt + 1, 257, 258, 272, 512, 4096, 1 << 16, 1 << 32, 1<<32 + 10, math.MaxInt - 1, math.MaxInt}

// wrongParts are no numbers of parts into which n vertices are cut.
func wrongParts(n int) []int {
	return []int{0, -1, -2, -n, -16, -1 << 32, -1<<32 + 1, math.MinInt, math.MinInt + 1, min(n, 16) + 1, n + 1, 17, 18, 32, 256, 257, 1 << 32, 1<<32 + 1, math.MaxInt - 1, math.MaxInt}
}

// far are numbers that are no vertices of n, and lie nowhere near one another.
func far(n int) []int {
	return []int{-1, -2, -n, -256, -1 << 32, -1<<32 + 1, math.MinInt, math.MinInt + 1, n, n + 1, 256, 257, 1 << 16, 1 << 32, 1<<32 + 1, math.MaxInt - 1, math.MaxInt}
}

// most is the greatest number of parts into which n vertices are cut.
func most(n int) int {
	if n > 16 {
		return 16
	}
	return n
}

// between are the intervals whose ends are these numbers, two of them an interval.
func between(ends ...int) []api.Part {
	var l []api.Part
	for k := 0; k < len(ends); k += 2 {
		l = append(l, api.Part{From: ends[k], To: ends[k+1]})
	}
	return l
}

// upTo are intervals that follow on one another, from 0 on: each of the numbers is the end of one.
func upTo(ends ...int) []api.Part {
	var l []api.Part
	from := 0
	for _, to := range ends {
		l = append(l, api.Part{From: from, To: to})
		from = to
	}
	return l
}

// wholes tells how often s goes into what k times n is, by taking it off.
func wholes(k, n, s int) int {
	often := 0
	for left := k * n; left >= s; left -= s {
		often++
	}
	return often
}

// byTaking tells n vertices, cut in s parts.
func byTaking(n, s int) []api.Part {
	var ends []int
	for k := 1; k <= s; k++ {
		ends = append(ends, wholes(k, n, s))
	}
	return upTo(ends...)
}

// mixed is n vertices in s parts of any sizes, other ones for each seed.
func mixed(n, s, seed int) []api.Part {
	r := rand.New(rand.NewPCG(9, uint64(seed)))
	ends := append(r.Perm(n - 1)[:s-1], n-1)
	for i := range ends {
		ends[i]++
	}
	slices.Sort(ends)
	return upTo(ends...)
}

// unlike are parts of n vertices that were not cut: of unlike sizes where n allows it.
func unlike(n int) [][]api.Part {
	l := [][]api.Part{upTo(n)}
	for s := 2; s <= most(n); s++ {
		var ones, last []int
		for k := 1; k < s; k++ {
			ones, last = append(ones, k), append(last, n-s+k)
		}
		l = append(l, upTo(append(ones, n)...), upTo(append(last, n)...))
		for seed := range 3 {
			l = append(l, mixed(n, s, seed))
		}
	}
	return l
}

// short tells a value, cut where it is too long to be read.
func short(v any) string {
	s := fmt.Sprint(v)
	return s[:min(len(s), 200)]
}

// wantKept does what is to be done, and fails if l, or what lies behind it, is not as it was.
func wantKept(t *testing.T, l []api.Part, do func()) {
	t.Helper()
	was := slices.Clone(l[:cap(l)])
	do()
	if !slices.Equal(l[:cap(l)], was) {
		t.Errorf("%s has become %s", short(was), short(l[:cap(l)]))
	}
}

func wantCut(t *testing.T, n, s int, want []api.Part) {
	t.Helper()
	if l, e := Cut(n, s); !slices.Equal(l, want) || e != api.OK {
		t.Errorf("Cut(%d, %d): %s, %v; not %s, OK", n, s, short(l), e, short(want))
	}
}

func wantNotCut(t *testing.T, n, s int) {
	t.Helper()
	if l, e := Cut(n, s); len(l) != 0 || e != api.ErrArg {
		t.Errorf("Cut(%d, %d): %s, %v; not nothing, ErrArg", n, s, short(l), e)
	}
}

func wantOf(t *testing.T, l []api.Part, v, want int) {
	t.Helper()
	wantKept(t, l, func() {
		if k := Of(l, v); k != want {
			t.Errorf("Of(%s, %d): %d, not %d", short(l), v, k, want)
		}
	})
}

func wantParts(t *testing.T, n int, l []api.Part) {
	t.Helper()
	wantKept(t, l, func() {
		if e := Check(n, l); e != api.OK {
			t.Errorf("Check(%d, %s): %v, not OK", n, short(l), e)
		}
	})
}

func wantNoParts(t *testing.T, n int, l []api.Part) {
	t.Helper()
	wantKept(t, l, func() {
		if e := Check(n, l); e != api.ErrArg {
			t.Errorf("Check(%d, %s): %v, not ErrArg", n, short(l), e)
		}
	})
}

// P9.1: what the document says of Cut, and the same by hand of other numbers.
func TestCutTellsParts(t *testing.T) {
	wantCut(t, 10, 3, upTo(3, 6, 10))
	wantNotCut(t, 2, 3)
	wantCut(t, 10, 1, upTo(10))
	wantCut(t, 10, 4, upTo(2, 5, 7, 10))
	wantCut(t, 10, 7, upTo(1, 2, 4, 5, 7, 8, 10))
	wantCut(t, 11, 3, upTo(3, 7, 11))
	wantCut(t, 12, 3, upTo(4, 8, 12))
	wantCut(t, 5, 2, upTo(2, 5))
	wantCut(t, 17, 16, upTo(1, 2, 3, 4, 5, 6, 7, 8, 9, 10, 11, 12, 13, 14, 15, 17))
	wantCut(t, 255, 2, upTo(127, 255))
}

// P9.1: the fewest and the most vertices, in the fewest and the most parts.
func TestFewestAndMostAreCut(t *testing.T) {
	wantCut(t, 1, 1, between(0, 1))
	wantCut(t, 2, 1, between(0, 2))
	wantCut(t, 2, 2, between(0, 1, 1, 2))
	wantCut(t, 256, 1, between(0, 256))
	wantCut(t, 256, 16, upTo(16, 32, 48, 64, 80, 96, 112, 128, 144, 160, 176, 192, 208, 224, 240, 256))
	wantCut(t, 255, 16, upTo(15, 31, 47, 63, 79, 95, 111, 127, 143, 159, 175, 191, 207, 223, 239, 255))
}

// P9.1: as many parts as vertices: each has one.
func TestAsManyPartsAsVertices(t *testing.T) {
	for n := 1; n <= 16; n++ {
		l, e := Cut(n, n)
		if len(l) != n || e != api.OK {
			t.Fatalf("Cut(%d, %d): %v, %v", n, n, l, e)
		}
		for k, part := range l {
			if part != (api.Part{From: k, To: k + 1}) {
				t.Errorf("Cut(%d, %d): the part %d is %v", n, n, k, part)
			}
		}
	}
	wantNotCut(t, 17, 17)
	wantNotCut(t, 256, 256)
}

// P9.1: parts of n that s divides are all of one size.
func TestPartsOfOneSize(t *testing.T) {
	for s := 1; s <= 16; s++ {
		for size := 1; size*s <= 256; size++ {
			var ends []int
			for to := size; to <= size*s; to += size {
				ends = append(ends, to)
			}
			wantCut(t, size*s, s, upTo(ends...))
		}
	}
}

// P9.1: all that may be cut.
func TestEachCut(t *testing.T) {
	for n := 1; n <= 256; n++ {
		for s := 1; s <= most(n); s++ {
			wantCut(t, n, s, byTaking(n, s))
		}
	}
}

// P9.1: more parts than vertices are refused, and more than 16 of however many vertices.
func TestTooManyPartsAreRefused(t *testing.T) {
	for n := 1; n <= 256; n++ {
		for s := most(n) + 1; s <= 300; s++ {
			wantNotCut(t, n, s)
		}
	}
}

// P9.1: wrong numbers of parts, of all numbers of vertices.
func TestWrongNumbersOfPartsAreRefused(t *testing.T) {
	for n := 1; n <= 256; n++ {
		for _, s := range wrongParts(n) {
			wantNotCut(t, n, s)
		}
	}
}

// P9.1: wrong numbers of vertices, in whatever numbers of parts.
func TestWrongNumbersOfVerticesAreNotCut(t *testing.T) {
	for _, n := range wrongMany {
		for s := -20; s <= 300; s++ {
			wantNotCut(t, n, s)
		}
		for _, s := range []int{n, n - 1, n + 1, -n} {
			wantNotCut(t, n, s)
		}
		for _, s := range wrongParts(16) {
			wantNotCut(t, n, s)
		}
	}
}

// P9.2: what the document says of Of and of Check.
func TestPartsAreAsked(t *testing.T) {
	l := upTo(3, 6, 10)
	wantOf(t, l, 5, 1)
	wantOf(t, l, 10, -1)
	wantParts(t, 10, l)
	wantNoParts(t, 10, l[:2])
	for v, want := range []int{0, 0, 0, 1, 1, 1, 2, 2, 2, 2} {
		wantOf(t, l, v, want)
	}
}

// P9.2: the first and the last vertex of each part, and numbers that no part has.
func TestOfTheEndsOfEachPart(t *testing.T) {
	for n := 1; n <= 256; n++ {
		for s := 1; s <= most(n); s++ {
			wantEnds(t, byTaking(n, s))
		}
		for _, l := range unlike(n) {
			wantEnds(t, l)
			for _, v := range far(n) {
				wantOf(t, l, v, -1)
			}
		}
	}
}

// wantEnds asks for the first and the last vertex of each of these parts, and for what lies beside them.
func wantEnds(t *testing.T, l []api.Part) {
	t.Helper()
	for k, part := range l {
		wantOf(t, l, part.From, k)
		wantOf(t, l, part.To-1, k)
		if k > 0 {
			wantOf(t, l, part.From-1, k-1)
		}
	}
	wantOf(t, l, -1, -1)
	wantOf(t, l, l[len(l)-1].To, -1)
}

// P9.2: in a list without intervals there is no vertex.
func TestOfNoIntervals(t *testing.T) {
	for _, v := range append(far(1), 0, 1, 2, 3) {
		wantOf(t, nil, v, -1)
		wantOf(t, []api.Part{}, v, -1)
		wantOf(t, make([]api.Part, 0, 5), v, -1)
	}
}

// P9.2: of intervals that overlap, or are there twice, the first one is told.
func TestOfIntervalsThatOverlap(t *testing.T) {
	l := between(0, 6, 3, 10, 3, 6, 0, 20)
	for v, want := range map[int]int{-1: -1, 0: 0, 2: 0, 3: 0, 5: 0, 6: 1, 9: 1, 10: 3, 19: 3, 20: -1} {
		wantOf(t, l, v, want)
	}
	wantOf(t, between(4, 5, 4, 5, 4, 5), 4, 0)
	wantOf(t, between(3, 10, 0, 6), 5, 0)
	wantOf(t, between(3, 10, 0, 6), 2, 1)
	wantOf(t, between(0, 256, 0, 256), 255, 0)
}

// P9.2: no interval has what lies in a gap.
func TestOfIntervalsWithGaps(t *testing.T) {
	l := between(1, 3, 4, 6, 100, 101)
	for v, want := range map[int]int{0: -1, 1: 0, 2: 0, 3: -1, 4: 1, 5: 1, 6: -1, 99: -1, 100: 2, 101: -1} {
		wantOf(t, l, v, want)
	}
}

// P9.2: intervals in no order are asked one behind the other.
func TestOfIntervalsInNoOrder(t *testing.T) {
	l := between(6, 10, 0, 3, 3, 6)
	for v, want := range map[int]int{-1: -1, 0: 1, 2: 1, 3: 2, 5: 2, 6: 0, 9: 0, 10: -1} {
		wantOf(t, l, v, want)
	}
}

// P9.2: an interval that holds no vertex, or ends ahead of where it begins, has none, and those behind it are still asked.
func TestOfIntervalsThatHoldNothing(t *testing.T) {
	for v := -3; v <= 9; v++ {
		wantOf(t, between(4, 4), v, -1)
		wantOf(t, between(6, 2), v, -1)
		wantOf(t, between(v, v, v+1, v, v, v-1, math.MaxInt, math.MinInt), v, -1)
		wantOf(t, between(v, v, v+1, v, 6, 2, v, v+1), v, 3)
	}
	wantOf(t, between(math.MaxInt, math.MinInt), 0, -1)
	wantOf(t, between(math.MinInt, math.MinInt), math.MinInt, -1)
	wantOf(t, between(math.MaxInt, math.MaxInt), math.MaxInt, -1)
}

// P9.2: any numbers may be an interval's ends, and be asked for; a list may be longer than parts are.
func TestOfAnyNumbers(t *testing.T) {
	least, greatest := math.MinInt, math.MaxInt
	wantOf(t, between(least, greatest), least, 0)
	wantOf(t, between(least, greatest), greatest-1, 0)
	wantOf(t, between(least, greatest), greatest, -1)
	wantOf(t, between(greatest-1, greatest), greatest-1, 0)
	wantOf(t, between(least, least+1), least, 0)
	wantOf(t, between(least, least+1), least+1, -1)
	wantOf(t, between(-5, -2), -2, -1)
	wantOf(t, between(-5, -2), -3, 0)
	wantOf(t, between(300, 500), 400, 0)
	wantOf(t, append(slices.Repeat(between(0, 1), 5000), api.Part{From: 1, To: 2}), 1, 5000)
}

// P9.2: what Cut tells, and parts of unlike sizes, are parts of so many vertices, and of no other number.
func TestPartsOfAnotherNumber(t *testing.T) {
	for n := 1; n <= 256; n++ {
		lists := unlike(n)
		for s := 1; s <= most(n); s++ {
			lists = append(lists, byTaking(n, s))
		}
		for _, l := range lists {
			wantParts(t, n, l)
			for _, other := range []int{n - 1, n + 1, -n, 2 * n, 1, 256, 257} {
				if other != n {
					wantNoParts(t, other, l)
				}
			}
			for _, other := range wrongMany {
				wantNoParts(t, other, l)
			}
		}
	}
}

// P9.2: a list without intervals is no parts, not even of no vertices.
func TestNoIntervalsAreNoParts(t *testing.T) {
	for n := -3; n <= 259; n++ {
		wantNoParts(t, n, nil)
		wantNoParts(t, n, []api.Part{})
		wantNoParts(t, n, make([]api.Part, 0, 5))
	}
	for _, n := range wrongMany {
		wantNoParts(t, n, nil)
	}
}

// ones are so many intervals of one vertex each.
func ones(many int) []api.Part {
	var l []api.Part
	for k := range many {
		l = append(l, api.Part{From: k, To: k + 1})
	}
	return l
}

// P9.2: parts are at most 16, however many vertices there are.
func TestMoreThanSixteenAreNoParts(t *testing.T) {
	for many := 1; many <= 300; many++ {
		if many <= 16 {
			wantParts(t, many, ones(many))
			continue
		}
		wantNoParts(t, many, ones(many))
	}
	for n := 18; n <= 256; n++ {
		wantParts(t, n, append(ones(15), api.Part{From: 15, To: n}))
		wantNoParts(t, n, append(ones(16), api.Part{From: 16, To: n}))
		wantNoParts(t, n, upTo(n-16, n-15, n-14, n-13, n-12, n-11, n-10, n-9, n-8, n-7, n-6, n-5, n-4, n-3, n-2, n-1, n))
	}
}

// P9.2: a number of vertices that may not be has no parts, though intervals go from 0 up to it.
func TestWrongNumbersOfVerticesHaveNoParts(t *testing.T) {
	wantParts(t, 256, between(0, 256))
	for _, n := range wrongMany {
		wantNoParts(t, n, between(0, n))
		wantNoParts(t, n, between(0, 1, 1, n))
		wantNoParts(t, n, between(0, 256, 256, n))
		wantNoParts(t, n, between(n, 0))
		wantNoParts(t, n, between(n, n))
		wantNoParts(t, n, between(0, 0))
	}
}

// P9.2: parts of which one has an end, or both ends, elsewhere are none.
func TestEndsElsewhereAreNoParts(t *testing.T) {
	for _, n := range []int{1, 2, 3, 10, 16, 17, 255, 256} {
		for s := 1; s <= most(n); s++ {
			l := byTaking(n, s)
			for k := range l {
				wantOtherEnds(t, n, l, k)
			}
		}
	}
}

// wantOtherEnds puts each end of the k-th of these parts elsewhere, and both ends.
func wantOtherEnds(t *testing.T, n int, l []api.Part, k int) {
	t.Helper()
	for _, other := range append(far(n), l[k].From-1, l[k].From+1, l[k].To-1, l[k].To+1, 0, n) {
		for _, part := range []api.Part{{From: other, To: l[k].To}, {From: l[k].From, To: other}, {From: other, To: other}, {From: other, To: -other}} {
			if part != l[k] {
				changed := slices.Clone(l)
				changed[k] = part
				wantNoParts(t, n, changed)
			}
		}
	}
}

// P9.2: each wrong list that there is a word for.
func TestWrongListsAreNoParts(t *testing.T) {
	wantParts(t, 10, between(0, 3, 3, 6, 6, 10))
	for _, l := range [][]api.Part{
		between(1, 3, 3, 6, 6, 10),           // begins behind 0
		between(-1, 3, 3, 6, 6, 10),          // and ahead of it
		between(0, 3, 3, 6, 6, 9),            // ends ahead of n
		between(0, 3, 3, 6, 6, 11),           // and behind it
		between(3, 6, 6, 10),                 // the first one is not there
		between(0, 3, 6, 10),                 // nor one between
		between(0, 3, 3, 6),                  // nor the last one
		between(0, 2, 3, 6, 6, 10),           // a gap
		between(0, 3, 4, 6, 6, 10),           // a gap
		between(0, 4, 3, 6, 6, 10),           // an overlap
		between(0, 3, 2, 6, 6, 10),           // an overlap
		between(0, 10, 3, 6, 6, 10),          // one within another one
		between(0, 3, 3, 3, 3, 6, 6, 10),     // an empty one between
		between(0, 0, 0, 3, 3, 6, 6, 10),     // ahead of all
		between(0, 3, 3, 6, 6, 10, 10, 10),   // behind all
		between(0, 3, 3, 6, 3, 6, 6, 10),     // one twice
		between(0, 3, 0, 3, 3, 6, 6, 10),     // the first one twice
		between(0, 3, 3, 6, 6, 10, 6, 10),    // the last one twice
		between(3, 6, 0, 3, 6, 10),           // in the wrong order
		between(6, 10, 3, 6, 0, 3),           // falling
		between(0, 3, 6, 10, 3, 6),           // the last two exchanged
		between(3, 0, 6, 3, 10, 6),           // each turned about
		between(0, 6, 6, 3, 3, 10),           // one turned about
		between(0, 11, 11, 10),               // the last one turned about
		between(0, -5, -5, 10),               // over a number below 0
		between(0, 10, 10, 20),               // vertices beyond n
		between(0, 3, 3, 6, 6, 10, 10, 11),   // one beyond n
		between(0, math.MaxInt),              // all that there are
		between(math.MinInt, math.MaxInt),    // and those below 0
		between(0, math.MinInt, 0, 10),       // an end that can't be
		between(0, math.MaxInt, 0, 10),       // and one
		between(0, 3, 3, 6, 6, 10, 0, 0),     // zeros behind
		between(0, 10, 0, 10),                // all, twice
		between(10, 20),                      // another ten
		between(-10, 0, 0, 10),               // ahead of 0 too
		slices.Repeat(between(0, 10), 16),    // sixteen times all
		slices.Repeat(between(0, 0), 16),     // sixteen times nothing
		slices.Repeat(between(0, 10), 17000), // a long list
	} {
		wantNoParts(t, 10, l)
	}
}

// vertices tells the vertices of an interval of which n are a few.
func vertices(n int, part api.Part) []int {
	var l []int
	for v := -3; v < n+3; v++ {
		if part.From <= v && v < part.To {
			l = append(l, v)
		}
	}
	return l
}

// byVertices tells what Check is to tell, by the vertices of all intervals, one behind the other.
func byVertices(n int, l []api.Part) api.Errno {
	if n <= 0 || n > 256 || len(l) == 0 || len(l) >= 17 {
		return api.ErrArg
	}
	next := 0
	for _, part := range l {
		has := vertices(n, part)
		if len(has) == 0 || part.From < 0 || part.To > n {
			return api.ErrArg
		}
		for _, v := range has {
			if v != next {
				return api.ErrArg
			}
			next++
		}
	}
	if next < n {
		return api.ErrArg
	}
	return api.OK
}

// wantAsVertices asks for l by Check, and for each vertex of it, and some beside, by Of.
func wantAsVertices(t *testing.T, n int, l []api.Part) {
	t.Helper()
	if byVertices(n, l) == api.OK {
		wantParts(t, n, l)
	} else {
		wantNoParts(t, n, l)
	}
	for v := -2; v < min(n, 256)+2; v++ {
		want := slices.IndexFunc(l, func(part api.Part) bool { return slices.Contains(vertices(min(n, 256), part), v) })
		if k := Of(l, v); k != want {
			t.Errorf("Of(%s, %d): %d, not %d", short(l), v, k, want)
		}
	}
}

// P9.2: all lists of at most three intervals whose ends are about three vertices.
func TestEachShortList(t *testing.T) {
	var each []api.Part
	for from := -1; from <= 4; from++ {
		for to := -1; to <= 4; to++ {
			each = append(each, api.Part{From: from, To: to})
		}
	}
	for _, a := range each {
		wantAsVertices(t, 3, []api.Part{a})
		for _, b := range each {
			wantAsVertices(t, 3, []api.Part{a, b})
			for _, c := range each {
				wantAsVertices(t, 3, []api.Part{a, b, c})
			}
		}
	}
}

// wantEachInOne fails if one of n vertices is in none of these parts, or in more than one, or if Of tells another one.
func wantEachInOne(t *testing.T, n int, l []api.Part) {
	t.Helper()
	for v := range n {
		var has []int
		for k, part := range l {
			if part.From <= v && v < part.To {
				has = append(has, k)
			}
		}
		if len(has) != 1 || Of(l, v) != has[0] {
			t.Errorf("of %s the vertex %d is in %v; by Of in %d", short(l), v, has, Of(l, v))
		}
	}
}

// P9.3: what was cut are parts, whose sizes differ by one at most.
func TestWhatWasCutAreParts(t *testing.T) {
	for n := 1; n <= 256; n++ {
		for s := 1; s <= most(n); s++ {
			l, e := Cut(n, s)
			if e != api.OK || len(l) != s || byVertices(n, l) != api.OK {
				t.Fatalf("Cut(%d, %d): %s, %v", n, s, short(l), e)
			}
			wantParts(t, n, l)
			var sizes []int
			for _, part := range l {
				sizes = append(sizes, part.To-part.From)
			}
			if slices.Max(sizes)-slices.Min(sizes) > 1 {
				t.Errorf("Cut(%d, %d) has parts of these sizes: %v", n, s, sizes)
			}
		}
	}
}

// P9.3: of parts each vertex is in just one, whether they were cut or not.
func TestEachVertexIsInOnePart(t *testing.T) {
	for n := 1; n <= 256; n++ {
		for s := 1; s <= most(n); s++ {
			l, _ := Cut(n, s)
			wantEachInOne(t, n, l)
		}
		for _, l := range unlike(n) {
			wantEachInOne(t, n, l)
		}
	}
}

// R4: what is told is new memory: whatever is written to it, what is told later is as it was.
func TestToldPartsAreNew(t *testing.T) {
	for _, n := range []int{1, 2, 10, 16, 17, 256} {
		for s := 1; s <= most(n); s++ {
			l, _ := Cut(n, s)
			other, _ := Cut(n, s)
			l = l[:cap(l)]
			for i := range l {
				l[i] = api.Part{From: 99, To: -99}
			}
			if !slices.Equal(other, byTaking(n, s)) {
				t.Errorf("Cut(%d, %d): %s shares with what was told later", n, s, short(other))
			}
			wantCut(t, n, s, byTaking(n, s))
		}
	}
}

// R4: what lies behind a list is no part of it, and stays.
func TestWhatLiesBehindAList(t *testing.T) {
	all := upTo(3, 6, 10, 20)
	wantParts(t, 10, all[:3])
	wantParts(t, 6, all[:2])
	wantNoParts(t, 10, all[:2])
	wantOf(t, all[:2], 6, -1)
	wantOf(t, all[:0], 0, -1)
	wantOf(t, all[1:2], 3, 0)
}

// FuzzParts: of whatever number of vertices, and whatever intervals, all calls tell what the vertices, one by one, tell.
func FuzzParts(f *testing.F) {
	f.Add(10, 3, "\x00\x03\x03\x06\x06\x0a")
	f.Add(2, 3, "\x00\x01\x01\x02")
	f.Add(10, 16, "\x00\x03\x03\x06")
	f.Add(127, 1, "\x00\x7f")
	f.Add(0, 1, "")
	f.Add(257, 2, "\x00\x00")
	f.Fuzz(func(t *testing.T, n, s int, text string) {
		// Longer texts tell nothing new, and take long.
		text = text[:min(len(text), 100)]
		var l []api.Part
		for ; len(text) >= 2; text = text[2:] {
			l = append(l, api.Part{From: int(int8(text[0])), To: int(int8(text[1]))})
		}
		wantAsVertices(t, n, l)
		if n < 1 || n > 256 || s < 1 || s > n || s > 16 {
			wantNotCut(t, n, s)
			return
		}
		wantCut(t, n, s, byTaking(n, s))
	})
}
