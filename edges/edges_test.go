package edges

import (
	"fmt"
	"math"
	"math/rand/v2"
	"slices"
	"testing"

	"carousel/api"
)

// wrongMany are no numbers of vertices.
var wrongMany = []int{0, -1, -2, -256, -1 << 32, math.MinInt, math.MinInt + 1, 257, 258, 512, 1 << 16, 1 << 32, 1<<32 + 3, math.MaxInt - 1, math.MaxInt}

// wrongEnds are no vertices of n.
func wrongEnds(n int) []int {
	return []int{-1, -2, -n, -256, -1 << 32, -1<<32 + 1, math.MinInt, math.MinInt + 1, n, n + 1, 256, 257, 512, 1 << 16, 1 << 32, 1<<32 + 1, math.MaxInt - 1, math.MaxInt}
}

// list is the edges whose ends are these numbers, two of them an edge.
func list(ends ...int) []api.Edge {
	var l []api.Edge
	for k := 0; k < len(ends); k += 2 {
		l = append(l, api.Edge{From: ends[k], To: ends[k+1]})
	}
	return l
}

// first is the first edges that n vertices may have, rising: so many, or all that there are.
func first(n, many int) []api.Edge {
	var l []api.Edge
	for from := range n {
		for to := range n {
			if from != to && len(l) < many {
				l = append(l, api.Edge{From: from, To: to})
			}
		}
	}
	return l
}

// falling is l, the last one first.
func falling(l []api.Edge) []api.Edge {
	l = slices.Clone(l)
	slices.Reverse(l)
	return l
}

// shuffled is l in no order, another one for each seed.
func shuffled(l []api.Edge, seed int) []api.Edge {
	l = slices.Clone(l)
	rand.New(rand.NewPCG(8, uint64(seed))).Shuffle(len(l), func(i, j int) { l[i], l[j] = l[j], l[i] })
	return l
}

// mixed is many edges in no order, some of them more than once, that n vertices may have: another list for each seed.
func mixed(n, many, seed int) []api.Edge {
	r := rand.New(rand.NewPCG(88, uint64(seed)))
	var l []api.Edge
	for range many {
		from := r.IntN(n)
		l = append(l, api.Edge{From: from, To: (from + 1 + r.IntN(n-1)) % n})
	}
	return l
}

// graphs are normal lists of n vertices, by their n.
func graphs() map[int][][]api.Edge {
	l := map[int][][]api.Edge{1: {nil}, 2: {nil, list(0, 1), list(1, 0), list(0, 1, 1, 0)}}
	for _, n := range []int{3, 4, 17, 64, 65, 255, 256} {
		l[n] = [][]api.Edge{nil, {}, list(0, n-1), list(n-1, 0), list(0, 1, n-2, n-1), first(n, n+1), first(n, api.MaxEdges)}
		for seed := range 5 {
			told, _ := byTable(n, mixed(n, 2+seed*seed*100, seed))
			l[n] = append(l[n], told)
		}
	}
	return l
}

// byTable tells what Normal is to tell, by a table of all edges that there may be.
func byTable(n int, l []api.Edge) ([]api.Edge, api.Errno) {
	if n <= 0 || n > 256 {
		return nil, api.ErrArg
	}
	var there [256][256]bool
	for _, edge := range l {
		if edge.From < 0 || edge.From >= n || edge.To < 0 || edge.To >= n || edge.From == edge.To {
			return nil, api.ErrArg
		}
		there[edge.From][edge.To] = true
	}
	var told []api.Edge
	for from := range n {
		for to := range n {
			if there[from][to] {
				told = append(told, api.Edge{From: from, To: to})
			}
		}
	}
	if len(told) > 4096 {
		return nil, api.ErrLong
	}
	return told, api.OK
}

// short tells a value, cut where it is too long to be read.
func short(v any) string {
	s := fmt.Sprint(v)
	return s[:min(len(s), 200)]
}

// wantKept does what is to be done, and fails if l, or what lies behind it, is not as it was.
func wantKept(t *testing.T, l []api.Edge, do func()) {
	t.Helper()
	was := slices.Clone(l[:cap(l)])
	do()
	if !slices.Equal(l[:cap(l)], was) {
		t.Errorf("%s has become %s", short(was), short(l[:cap(l)]))
	}
}

func wantNormal(t *testing.T, n int, l, want []api.Edge) {
	t.Helper()
	wantKept(t, l, func() {
		if told, e := Normal(n, l); !slices.Equal(told, want) || e != api.OK {
			t.Errorf("Normal(%d, %s): %s, %v; not %s, OK", n, short(l), short(told), e, short(want))
		}
	})
}

func wantNotNormal(t *testing.T, n int, l []api.Edge, want api.Errno) {
	t.Helper()
	wantKept(t, l, func() {
		if told, e := Normal(n, l); len(told) != 0 || e != want {
			t.Errorf("Normal(%d, %s): %s, %v; not nothing, %v", n, short(l), short(told), e, want)
		}
	})
}

func wantOut(t *testing.T, l []api.Edge, v int, want ...int) {
	t.Helper()
	wantKept(t, l, func() {
		if told := Out(l, v); !slices.Equal(told, want) {
			t.Errorf("Out(%s, %d): %s, not %s", short(l), v, short(told), short(want))
		}
	})
}

func wantDegrees(t *testing.T, n int, l []api.Edge, wantOut, wantIn []int) {
	t.Helper()
	wantKept(t, l, func() {
		if out, in := Degrees(n, l); !slices.Equal(out, wantOut) || !slices.Equal(in, wantIn) {
			t.Errorf("Degrees(%d, %s): %s, %s; not %s, %s", n, short(l), short(out), short(in), short(wantOut), short(wantIn))
		}
	})
}

func wantReversed(t *testing.T, l, want []api.Edge) {
	t.Helper()
	wantKept(t, l, func() {
		if told := Reverse(l); !slices.Equal(told, want) {
			t.Errorf("Reverse(%s): %s, not %s", short(l), short(told), short(want))
		}
	})
}

// P8.1: what the document says of Normal, list by list.
func TestNormalTellsEdgesRising(t *testing.T) {
	wantNormal(t, 3, list(2, 0, 0, 1, 2, 0), list(0, 1, 2, 0))
	wantNormal(t, 3, list(0, 1, 2, 0), list(0, 1, 2, 0))
	wantNormal(t, 3, list(2, 1, 2, 0, 1, 2, 1, 0, 0, 2, 0, 1), list(0, 1, 0, 2, 1, 0, 1, 2, 2, 0, 2, 1))
	wantNormal(t, 2, list(1, 0, 0, 1), list(0, 1, 1, 0))
	wantNotNormal(t, 3, list(1, 1), api.ErrArg)
	wantNotNormal(t, 3, list(0, 3), api.ErrArg)
}

// P8.1: edges that differ in From alone, and in To alone.
func TestEdgesRiseByFromThenByTo(t *testing.T) {
	wantNormal(t, 9, list(7, 3, 0, 3, 8, 3, 2, 3), list(0, 3, 2, 3, 7, 3, 8, 3))
	wantNormal(t, 9, list(3, 7, 3, 0, 3, 8, 3, 2), list(3, 0, 3, 2, 3, 7, 3, 8))
	wantNormal(t, 256, list(1, 0, 0, 255, 255, 1, 254, 255), list(0, 255, 1, 0, 254, 255, 255, 1))
}

// P8.1: an edge and the one that leads back are unlike.
func TestEdgesBackStay(t *testing.T) {
	wantNormal(t, 4, list(3, 1, 1, 3), list(1, 3, 3, 1))
	wantNormal(t, 4, list(3, 1, 1, 3, 3, 1, 1, 3, 3, 1), list(1, 3, 3, 1))
}

// P8.1: an edge is there once, however often it was, and whatever stands between.
func TestEdgesAreThereOnce(t *testing.T) {
	for _, many := range []int{1, 2, 3, 100, 4096, 4097, 100000} {
		wantNormal(t, 2, slices.Repeat(list(1, 0), many), list(1, 0))
		wantNormal(t, 256, slices.Repeat(list(255, 0), many), list(255, 0))
		wantNormal(t, 5, slices.Repeat(list(4, 0, 0, 4, 0, 1), many), list(0, 1, 0, 4, 4, 0))
	}
}

// P8.1: no edges are a list of however many vertices there may be.
func TestNoEdgesAreNormal(t *testing.T) {
	for n := 1; n <= 256; n++ {
		wantNormal(t, n, nil, nil)
		wantNormal(t, n, []api.Edge{}, nil)
	}
}

// P8.1: the fewest and the most vertices, and the first and the last one of them as either end.
func TestFirstAndLastVertices(t *testing.T) {
	wantNotNormal(t, 1, list(0, 0), api.ErrArg)
	wantNotNormal(t, 1, list(0, 1), api.ErrArg)
	wantNotNormal(t, 1, list(1, 0), api.ErrArg)
	for n := 2; n <= 256; n++ {
		wantNormal(t, n, list(0, n-1), list(0, n-1))
		wantNormal(t, n, list(n-1, 0), list(n-1, 0))
		wantNormal(t, n, list(n-1, 0, 0, n-1), list(0, n-1, n-1, 0))
		wantNotNormal(t, n, list(0, n), api.ErrArg)
		wantNotNormal(t, n, list(n, 0), api.ErrArg)
		wantNotNormal(t, n, list(0, -1), api.ErrArg)
		wantNotNormal(t, n, list(-1, 0), api.ErrArg)
	}
}

// P8.1: each of the edges that there may be, of the most vertices.
func TestEachEdgeMayBe(t *testing.T) {
	for from := range 256 {
		for to := range 256 {
			if from == to {
				wantNotNormal(t, 256, list(from, to), api.ErrArg)
				continue
			}
			wantNormal(t, 256, list(from, to), list(from, to))
		}
	}
}

// P8.1: a graph has from 1 to 256 vertices, whatever its edges are.
func TestWrongNumbersOfVerticesAreRefused(t *testing.T) {
	for _, n := range wrongMany {
		for _, l := range [][]api.Edge{nil, {}, list(0, 1), list(1, 0, 0, 1), list(0, 0), list(-1, 0), list(0, math.MaxInt), list(256, 0), first(65, 4096), first(256, 4097)} {
			wantNotNormal(t, n, l, api.ErrArg)
		}
	}
}

// P8.1: an end that is no vertex is refused as From and as To, and wherever its edge stands.
func TestWrongEndsAreRefused(t *testing.T) {
	for _, n := range []int{2, 3, 64, 255, 256} {
		for _, wrong := range wrongEnds(n) {
			for _, edge := range []api.Edge{{From: wrong, To: 0}, {From: 0, To: wrong}, {From: wrong, To: n - 1}, {From: n - 1, To: wrong}, {From: wrong, To: wrong}, {From: wrong, To: -wrong}} {
				wantNotNormal(t, n, []api.Edge{edge}, api.ErrArg)
				l := mixed(n, 9, n)
				for at := range len(l) + 1 {
					wantNotNormal(t, n, slices.Insert(slices.Clone(l), at, edge), api.ErrArg)
				}
			}
		}
	}
	for _, wrong := range wrongEnds(1) {
		wantNotNormal(t, 1, list(0, wrong), api.ErrArg)
		wantNotNormal(t, 1, list(wrong, 0), api.ErrArg)
	}
}

// P8.1: an edge that leads to where it begins is refused at each vertex, and wherever it stands.
func TestEdgesThatLeadNowhereAreRefused(t *testing.T) {
	for _, n := range []int{1, 2, 3, 64, 255, 256} {
		for v := range n {
			wantNotNormal(t, n, list(v, v), api.ErrArg)
			wantNotNormal(t, n, list(v, v, v, v), api.ErrArg)
		}
	}
	l := first(256, 50)
	for at := range len(l) + 1 {
		wantNotNormal(t, 256, slices.Insert(slices.Clone(l), at, api.Edge{From: 255, To: 255}), api.ErrArg)
	}
}

// orders are lists of the same edges: rising, falling, in no order, and with edges twice and more often.
func orders(l []api.Edge) [][]api.Edge {
	twice := slices.Repeat(l, 2)
	return [][]api.Edge{
		l, falling(l), shuffled(l, 1), shuffled(l, 2),
		twice, falling(twice), shuffled(twice, 3), shuffled(slices.Repeat(l, 5), 4),
		slices.Concat(l, falling(l)), slices.Concat(falling(l), l),
	}
}

// P8.1: 4096 unlike edges are a list, however often they are there; one more are none.
func TestThereAreAtMostSoManyEdges(t *testing.T) {
	for _, n := range []int{65, 66, 128, 256} {
		for _, many := range []int{4095, 4096} {
			for _, l := range orders(first(n, many)) {
				wantNormal(t, n, l, first(n, many))
			}
		}
		for _, many := range []int{4097, 4098, 4160} {
			for _, l := range orders(first(n, many)) {
				wantNotNormal(t, n, l, api.ErrLong)
			}
		}
	}
	for _, n := range []int{2, 63, 64} {
		all := first(n, math.MaxInt)
		wantNormal(t, n, shuffled(slices.Repeat(all, 3), n), all)
	}
	for _, l := range orders(first(256, math.MaxInt)) {
		wantNotNormal(t, 256, l, api.ErrLong)
	}
}

// P8.1: one edge more makes a list too long wherever it stands; one that is there already does not.
func TestOneEdgeMoreIsTooMany(t *testing.T) {
	l := first(256, 4096)
	for _, at := range []int{0, 1, 2048, 4095, 4096} {
		wantNotNormal(t, 256, slices.Insert(slices.Clone(l), at, api.Edge{From: 255, To: 0}), api.ErrLong)
		wantNormal(t, 256, slices.Insert(slices.Clone(l), at, l[77]), l)
	}
}

// P8.1: what may not be is told ahead of the edges that are too many, wherever it stands.
func TestWrongEdgesAreToldAheadOfTooMany(t *testing.T) {
	wrong := list(0, 0, 255, 255, -1, 0, 0, -1, 256, 0, 0, 256, math.MinInt, math.MaxInt, math.MaxInt, math.MinInt)
	for _, many := range []int{4096, 4097, 5000} {
		l := shuffled(first(256, many), many)
		for _, edge := range wrong {
			for _, at := range []int{0, 1, many / 2, many - 1, many} {
				wantNotNormal(t, 256, slices.Insert(slices.Clone(l), at, edge), api.ErrArg)
			}
		}
		wantNotNormal(t, 256, slices.Concat(l, wrong), api.ErrArg)
	}
	wantNotNormal(t, 256, slices.Concat(first(256, math.MaxInt), list(3, 3)), api.ErrArg)
	wantNotNormal(t, 65, first(66, math.MaxInt), api.ErrArg)
}

// P8.1: all lists of at most three edges whose ends are about three vertices.
func TestNormalOfEachShortList(t *testing.T) {
	var each []api.Edge
	for from := -1; from <= 3; from++ {
		for to := -1; to <= 3; to++ {
			each = append(each, api.Edge{From: from, To: to})
		}
	}
	for _, a := range each {
		wantAsTable(t, 3, []api.Edge{a})
		for _, b := range each {
			wantAsTable(t, 3, []api.Edge{a, b})
			for _, c := range each {
				wantAsTable(t, 3, []api.Edge{a, b, c})
			}
		}
	}
}

func wantAsTable(t *testing.T, n int, l []api.Edge) {
	t.Helper()
	want, e := byTable(n, l)
	if e != api.OK {
		wantNotNormal(t, n, l, e)
		return
	}
	wantNormal(t, n, l, want)
}

// P8.1: lists in no order, of all lengths about the greatest one, as a table of all edges tells them.
func TestNormalAgreesWithATable(t *testing.T) {
	for n := 2; n <= 256; n++ {
		for _, many := range []int{1, 2, 5, 30, 400, 4200} {
			wantAsTable(t, n, mixed(n, many, n))
		}
	}
	for seed := range 40 {
		wantAsTable(t, 256, mixed(256, 4180+seed, seed))
		wantAsTable(t, 65, mixed(65, 15000+1000*seed, seed))
	}
}

// P8.2: what the document says of Out.
func TestOutTellsEnds(t *testing.T) {
	l := list(0, 1, 0, 2, 2, 1)
	wantOut(t, l, 0, 1, 2)
	wantOut(t, l, 1)
	wantOut(t, l, 2, 1)
	wantOut(t, list(255, 0, 255, 254), 255, 0, 254)
	for _, v := range []int{0, 1, 255, -1, math.MinInt, math.MaxInt} {
		wantOut(t, nil, v)
		wantOut(t, []api.Edge{}, v)
	}
}

// P8.2: ends stand as they stand in the list, which may be in no order, and have edges twice.
func TestOutKeepsOrder(t *testing.T) {
	l := list(2, 9, 0, 7, 2, 1, 1, 2, 2, 9, 0, 3, 2, 0, 2, 9)
	wantOut(t, l, 2, 9, 1, 9, 0, 9)
	wantOut(t, l, 0, 7, 3)
	wantOut(t, l, 1, 2)
	wantOut(t, l, 9)
	wantOut(t, slices.Repeat(list(3, 4, 4, 3), 5000), 3, slices.Repeat([]int{4}, 5000)...)
}

// P8.2: of a number at which no edge begins there are no ends; what is no vertex of any graph is a number as well.
func TestOutOfNoVertex(t *testing.T) {
	for _, n := range []int{2, 3, 256} {
		for _, v := range wrongEnds(n) {
			wantOut(t, first(n, math.MaxInt), v)
			wantOut(t, list(0, v, 1, v), v)
			wantOut(t, list(v, 5, 0, v, v, v), v, 5, v)
		}
	}
	wantOut(t, list(5, 5, 5, 6, 6, 5), 5, 5, 6)
}

// P8.2: the edges that begin at each vertex, one vertex behind the other, are all edges of a list that rises.
func TestOutPartsAList(t *testing.T) {
	for n, lists := range graphs() {
		for _, l := range lists {
			var all []api.Edge
			for v := range n {
				for _, to := range Out(l, v) {
					all = append(all, api.Edge{From: v, To: to})
				}
			}
			if !slices.Equal(all, l) {
				t.Errorf("%s is parted into %s", short(l), short(all))
			}
		}
	}
}

// P8.2: what the document says of Reverse.
func TestReverseTurnsEdges(t *testing.T) {
	wantReversed(t, list(0, 1, 0, 2, 2, 1), list(1, 0, 1, 2, 2, 0))
	wantReversed(t, nil, nil)
	wantReversed(t, []api.Edge{}, nil)
	wantReversed(t, list(3, 8), list(8, 3))
	wantReversed(t, list(0, 255, 255, 0), list(0, 255, 255, 0))
}

// P8.2: what is turned rises, from whatever order, and has edges as often as they were there.
func TestReverseKeepsEachEdge(t *testing.T) {
	wantReversed(t, list(2, 1, 0, 1, 2, 1, 1, 2, 0, 2), list(1, 0, 1, 2, 1, 2, 2, 0, 2, 1))
	wantReversed(t, list(1, 0, 1, 0, 1, 0), list(0, 1, 0, 1, 0, 1))
	wantReversed(t, slices.Repeat(list(1, 0, 2, 0), 3000), slices.Concat(slices.Repeat(list(0, 1), 3000), slices.Repeat(list(0, 2), 3000)))
	wantReversed(t, list(4, 4, 3, 3, 4, 4), list(3, 3, 4, 4, 4, 4))
}

// P8.2: any numbers are turned, and stand by their worth; no list is too long.
func TestReverseOfAnyNumbers(t *testing.T) {
	least, most := math.MinInt, math.MaxInt
	wantReversed(t,
		list(0, most, 0, least, 0, 0, 0, -1, 0, 1, 0, 256),
		list(least, 0, -1, 0, 0, 0, 1, 0, 256, 0, most, 0))
	wantReversed(t,
		list(most, 0, least, 0, 0, 0, -1, 0, 1, 0, 256, 0),
		list(0, least, 0, -1, 0, 0, 0, 1, 0, 256, 0, most))
	wantReversed(t,
		list(most, least, least, most, least, least, most, most),
		list(least, least, least, most, most, least, most, most))
	turned := Reverse(first(256, math.MaxInt))
	if !slices.Equal(turned, first(256, math.MaxInt)) {
		t.Errorf("all edges turned are %s", short(turned))
	}
}

// wantTurned fails if the list that Reverse tells does not rise, or has not just the edges of l, turned.
func wantTurned(t *testing.T, l []api.Edge) {
	t.Helper()
	turned := Reverse(l)
	for i := range turned[min(1, len(turned)):] {
		a, b := turned[i], turned[i+1]
		if a.From > b.From || a.From == b.From && a.To > b.To {
			t.Errorf("Reverse(%s): %v stands ahead of %v", short(l), a, b)
		}
	}
	often := map[api.Edge]int{}
	for _, edge := range l {
		often[api.Edge{From: edge.To, To: edge.From}]++
	}
	for _, edge := range turned {
		often[edge]--
	}
	for edge, many := range often {
		if many != 0 {
			t.Errorf("Reverse(%s): %v is missing %d times", short(l), edge, many)
		}
	}
}

// P8.2: lists in no order, with edges twice.
func TestReverseRises(t *testing.T) {
	for n := 2; n <= 256; n++ {
		for _, many := range []int{1, 2, 13, 14, 100, 5000} {
			wantTurned(t, mixed(n, many, n))
		}
	}
}

// P8.3: what the document says of Degrees.
func TestDegreesAreCounted(t *testing.T) {
	wantDegrees(t, 3, list(0, 1, 0, 2, 2, 1), []int{2, 0, 1}, []int{0, 2, 1})
	wantDegrees(t, 3, list(2, 1, 0, 2, 0, 1), []int{2, 0, 1}, []int{0, 2, 1})
	wantDegrees(t, 4, list(0, 1, 0, 2, 2, 1), []int{2, 0, 1, 0}, []int{0, 2, 1, 0})
	for n := 1; n <= 256; n++ {
		wantDegrees(t, n, nil, make([]int, n), make([]int, n))
		wantDegrees(t, n, []api.Edge{}, make([]int, n), make([]int, n))
	}
}

// P8.3: an edge counts as often as it is there, and a list may be longer than a graph's.
func TestDegreesCountEachTime(t *testing.T) {
	wantDegrees(t, 2, list(0, 1, 0, 1, 1, 0, 0, 1), []int{3, 1}, []int{1, 3})
	wantDegrees(t, 3, slices.Repeat(list(2, 0), 100000), []int{0, 0, 100000}, []int{100000, 0, 0})
	all := slices.Repeat([]int{255}, 256)
	wantDegrees(t, 256, first(256, math.MaxInt), all, all)
}

// P8.3: an end that is no vertex is left out, but not the edge's other end.
func TestOtherEndsAreLeftOut(t *testing.T) {
	wantDegrees(t, 2, list(0, 1, 0, 2, 2, 1), []int{2, 0}, []int{0, 2})
	wantDegrees(t, 1, list(0, 1, 0, 2, 2, 1), []int{2}, []int{0})
	wantDegrees(t, 1, list(1, 0, 0, 0), []int{1}, []int{2})
	for _, n := range []int{3, 64, 255, 256} {
		for _, wrong := range wrongEnds(n) {
			out, in := make([]int, n), make([]int, n)
			wantDegrees(t, n, list(wrong, wrong), out, in)
			for _, other := range wrongEnds(n) {
				wantDegrees(t, n, list(wrong, other, other, other), out, in)
			}
			out[n-1], in[1] = 1, 2
			wantDegrees(t, n, list(n-1, wrong, wrong, 1, wrong, wrong, wrong, 1), out, in)
		}
	}
}

// P8.3: an edge that leads to where it begins begins there, and ends there.
func TestDegreesOfEdgesThatLeadNowhere(t *testing.T) {
	wantDegrees(t, 1, list(0, 0), []int{1}, []int{1})
	wantDegrees(t, 3, list(1, 1, 2, 2, 1, 1), []int{0, 2, 1}, []int{0, 2, 1})
}

// P8.3: of no vertices, or of too many, nothing is told.
func TestDegreesOfWrongNumbersOfVertices(t *testing.T) {
	for _, n := range wrongMany {
		for _, l := range [][]api.Edge{nil, {}, list(0, 1, 1, 0), list(-1, 0), first(256, math.MaxInt)} {
			wantDegrees(t, n, l, nil, nil)
		}
	}
}

// P8.4: a normal list is its own normal list; one in another order, or with edges twice, has the same one.
func TestNormalAgainIsTheSame(t *testing.T) {
	for n, lists := range graphs() {
		for _, l := range lists {
			for _, other := range orders(l) {
				wantNormal(t, n, other, l)
				told, _ := Normal(n, other)
				wantNormal(t, n, told, l)
			}
		}
	}
}

// P8.4: reversed twice a normal list is what it was; another list is put in order, and keeps what it has twice.
func TestReversedTwice(t *testing.T) {
	for n, lists := range graphs() {
		for _, l := range lists {
			wantReversed(t, Reverse(l), l)
			wantNormal(t, n, Reverse(Reverse(shuffled(l, n))), l)
		}
	}
	wantReversed(t, Reverse(list(2, 1, 0, 1, 2, 1, 1, 2)), list(0, 1, 1, 2, 2, 1, 2, 1))
}

// P8.4: a normal list that is reversed is a normal list.
func TestReversedIsNormal(t *testing.T) {
	for n, lists := range graphs() {
		for _, l := range lists {
			wantNormal(t, n, Reverse(l), Reverse(l))
		}
	}
}

// sum is what all numbers of l are together.
func sum(l []int) int {
	all := 0
	for _, many := range l {
		all += many
	}
	return all
}

// P8.4: as many edges begin as end; what begins in a list ends in the one that is turned; Out tells as many ends as Degrees counts.
func TestAsManyEdgesBeginAsEnd(t *testing.T) {
	for n, lists := range graphs() {
		for _, normal := range lists {
			for _, l := range orders(normal) {
				out, in := Degrees(n, l)
				if sum(out) != len(l) || sum(in) != len(l) {
					t.Errorf("of %d edges %d begin, and %d end", len(l), sum(out), sum(in))
				}
				wantDegrees(t, n, Reverse(l), in, out)
			}
			out, _ := Degrees(n, normal)
			for v, many := range out {
				if len(Out(normal, v)) != many {
					t.Errorf("of %d there are %d ends, not %d", v, len(Out(normal, v)), many)
				}
			}
		}
	}
}

// spoil writes over all of a list, and what lies behind it.
func spoil[T any](l []T, by T) {
	l = l[:cap(l)]
	for i := range l {
		l[i] = by
	}
}

// R4: what is told is new memory: whatever is written to it, neither the list handed in becomes another one, nor what is told later.
func TestToldListsAreNew(t *testing.T) {
	far := api.Edge{From: 99, To: -99}
	for _, l := range [][]api.Edge{list(0, 1, 0, 2, 2, 1), list(2, 1, 0, 2, 0, 1), list(0, 1, 0, 1, 2, 1), list(0, 1), append(make([]api.Edge, 0, 50), list(1, 2, 0, 2)...)} {
		normal, _ := Normal(3, l)
		out, in := Degrees(3, l)
		wasNormal, wasEnds, wasOut, wasIn, wasTurned := slices.Clone(normal), slices.Clone(Out(l, 0)), slices.Clone(out), slices.Clone(in), Reverse(l)
		wantKept(t, l, func() {
			spoil(normal, far)
			spoil(Out(l, 0), 99)
			spoil(out, 99)
			if !slices.Equal(in, wasIn) {
				t.Errorf("Degrees(%v): what ends is kept where what begins is", l)
			}
			spoil(in, 99)
			spoil(Reverse(l), far)
		})
		wantNormal(t, 3, l, wasNormal)
		wantOut(t, l, 0, wasEnds...)
		wantDegrees(t, 3, l, wasOut, wasIn)
		wantReversed(t, l, wasTurned)
	}
}

// R4: the list handed in is not looked at later: what was told stays, whatever becomes of that.
func TestToldListsStay(t *testing.T) {
	l := list(0, 1, 0, 2, 2, 1)
	normal, _ := Normal(3, l)
	ends, turned := Out(l, 0), Reverse(l)
	out, in := Degrees(3, l)
	spoil(l, api.Edge{From: 1, To: 0})
	if !slices.Equal(normal, list(0, 1, 0, 2, 2, 1)) || !slices.Equal(ends, []int{1, 2}) || !slices.Equal(turned, list(1, 0, 1, 2, 2, 0)) {
		t.Errorf("%v, %v, %v", normal, ends, turned)
	}
	if !slices.Equal(out, []int{2, 0, 1}) || !slices.Equal(in, []int{0, 2, 1}) {
		t.Errorf("%v, %v", out, in)
	}
}

// FuzzEdges: of whatever number of vertices, and whatever edges, all calls tell what a table, or a count, tells.
func FuzzEdges(f *testing.F) {
	f.Add(3, "\x02\x00\x00\x01\x02\x00")
	f.Add(3, "\x01\x01")
	f.Add(3, "\x00\x03")
	f.Add(256, "\x80\xff\xff\x80\x7f\x00")
	f.Add(0, "")
	f.Add(257, "\x00\x01")
	f.Fuzz(func(t *testing.T, n int, s string) {
		// Longer texts tell nothing new, and take long.
		s = s[:min(len(s), 20000)]
		var l []api.Edge
		begin, end := map[int]int{}, map[int]int{}
		for ; len(s) >= 2; s = s[2:] {
			edge := api.Edge{From: int(int8(s[0])), To: int(int8(s[1]))}
			l = append(l, edge)
			begin[edge.From]++
			end[edge.To]++
		}
		wantAsTable(t, n, l)
		wantTurned(t, l)
		var out, in []int
		for v := range n {
			if n > 256 {
				break
			}
			out, in = append(out, begin[v]), append(in, end[v])
			if ends := Out(l, v); len(ends) != begin[v] {
				t.Errorf("Out(%s, %d): %s", short(l), v, short(ends))
			}
		}
		wantDegrees(t, n, l, out, in)
	})
}
