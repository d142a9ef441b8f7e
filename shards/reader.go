package shards

import (
	"carousel/api"
	"carousel/gaps"
	"carousel/ints"
	"carousel/packed"
)

// reader reads what stands in a text, from its beginning on.
// Where something else stands there than it is asked for, it fails, and has nothing left to read.
type reader struct {
	rest   string
	failed bool
}

// want fails, if what was read is not as it must be.
func (r *reader) want(ok bool) {
	if !ok {
		r.rest, r.failed = "", true
	}
}

// text reads so many bytes.
func (r *reader) text(size int) string {
	if size > len(r.rest) {
		r.want(false)
		return ""
	}
	s := r.rest[:size]
	r.rest = r.rest[size:]
	return s
}

// octet reads one byte, as a number.
func (r *reader) octet() int {
	s := r.text(1)
	if s == "" {
		return 0
	}
	return int(s[0])
}

// number reads a number as ints put it.
func (r *reader) number() int {
	n, next, ok := ints.Get(r.rest, 0)
	r.want(ok)
	r.rest = r.rest[next:]
	return n
}

// list reads numbers that rise, as gaps put them.
func (r *reader) list() []int {
	l, next, e := gaps.Decode(r.rest, 0)
	r.want(e == api.OK)
	r.rest = r.rest[next:]
	return l
}

// table reads so many numbers of width bits each, as packed put them.
func (r *reader) table(many, width int) []int {
	l, e := packed.Unpack(r.text((many*width+7)/8), many, width)
	r.want(e == api.OK)
	return l
}

// shardReader reads a shard, all but its sum.
type shardReader struct {
	reader
}

func (r *shardReader) shard() api.Shard {
	r.want(r.text(len(letters)) == letters)
	part := r.part()
	out := r.lists(r.degrees(part.To - part.From))
	r.want(r.number() == total(out))
	return api.Shard{Part: part, Out: out}
}

// part reads a part that may be: whoever reads on may make room for each of its vertices.
func (r *shardReader) part() api.Part {
	from := r.number()
	to := r.number()
	part := api.Part{From: from, To: to}
	if !mayBePart(part) {
		r.want(false)
		return api.Part{}
	}
	return part
}

// degrees reads how long so many lists are.
func (r *shardReader) degrees(many int) []int {
	width := r.octet()
	l := r.table(many, width)
	r.want(packed.Width(l) == width)
	return l
}

// lists reads lists that are as long as degrees say.
func (r *shardReader) lists(degrees []int) [][]int {
	out := make([][]int, len(degrees))
	for i, degree := range degrees {
		out[i] = r.list()
		r.want(len(out[i]) == degree)
	}
	return out
}
