package index

import (
	"bytes"
	"crypto/sha256"
	"math"
	"slices"
	"strconv"
	"testing"

	"stillage/api"
)

// What the chapter and that of entries say, written down a second time. No function of this package or of those that it calls is used for it.

// rowWhere answers the segments of l that fit, ascending and each once.
func rowWhere(l []int, fits func(seg int) bool) []int {
	found := map[int]bool{}
	var out []int
	for _, seg := range l {
		if fits(seg) && !found[seg] {
			found[seg] = true
			out = append(out, seg)
		}
	}
	slices.Sort(out)
	return out
}

func rowOf(l ...int) []int {
	return rowWhere(l, func(int) bool { return true })
}

// model has the entries that an index is to have.
type model map[api.Digest]api.Entry

func modelOf(l []api.Entry) model {
	m := model{}
	for _, e := range l {
		e.In = slices.Clone(e.In)
		m[e.Digest] = e
	}
	return m
}

func (m model) apply(w api.Word) {
	e, known := m[w.Digest]
	switch {
	case w.Kind == 1 || w.Kind == 2:
		m[w.Digest] = api.Entry{Digest: w.Digest, Kind: w.Kind, Size: w.Size, Loc: w.Loc, In: rowOf(append([]int{w.Loc.Seg}, e.In...)...)}
	case w.Kind == 5 && known:
		m[w.Digest] = api.Entry{Digest: w.Digest, Kind: 5, Loc: w.Loc, In: rowOf(e.In...)}
	}
}

func (m model) keep(segs []int) {
	exists := map[int]bool{}
	for _, seg := range segs {
		exists[seg] = true
	}
	left := model{}
	for d, e := range m {
		e.In = rowWhere(e.In, func(seg int) bool { return exists[seg] })
		if !exists[e.Loc.Seg] {
			e.Kind, e.Size, e.Loc = 5, 0, api.Loc{}
		}
		if e.Kind != 5 || len(e.In) > 0 {
			left[d] = e
		}
	}
	clear(m)
	for d, e := range left {
		m[d] = e
	}
}

func (m model) row() []api.Entry {
	var out []api.Entry
	for _, e := range m {
		out = append(out, e)
	}
	slices.SortFunc(out, func(a, b api.Entry) int { return bytes.Compare(a.Digest[:], b.Digest[:]) })
	return out
}

func (m model) count() (int, int) {
	n, size := 0, 0
	for _, e := range m {
		if e.Kind != 5 {
			n++
			size += e.Size
		}
	}
	return n, size
}

// same tells whether two entries are the same; nil and empty rows are.
func same(a, b api.Entry) bool {
	return a.Digest == b.Digest && a.Kind == b.Kind && a.Size == b.Size && a.Loc == b.Loc && slices.Equal(a.In, b.In)
}

// pair is an index and what it is to have. Each call is made on both, with rows that have spare room around them, and Count is asked for behind each single call.
type pair struct {
	t     *testing.T
	index *Index
	model model
	asked map[api.Digest]bool // those of which a call has spoken
}

// newPair answers a pair with the entries l.
func newPair(t *testing.T, l ...api.Entry) *pair {
	t.Helper()
	p := &pair{t: t, model: modelOf(l), asked: map[api.Digest]bool{}}
	given, stays := entriesWithRoom(l)
	p.index = New(given)
	stays(t, "New")
	for _, e := range l {
		p.asked[e.Digest] = true
	}
	p.count("New")
	return p
}

// apply does what a word says.
func (p *pair) apply(w api.Word) {
	p.t.Helper()
	p.asked[w.Digest] = true
	p.model.apply(w)
	p.index.Apply(w)
	p.count("Apply")
	p.get(w.Digest)
}

// keep leaves what is in the segments.
func (p *pair) keep(segs ...int) {
	p.t.Helper()
	p.model.keep(segs)
	given, stays := withRoom(segs)
	p.index.Keep(given)
	stays(p.t, "Keep")
	p.count("Keep")
}

// get asks for a digest.
func (p *pair) get(d api.Digest) {
	p.t.Helper()
	want, known := p.model[d]
	if e, ok := p.index.Get(d); ok != known || !same(e, want) {
		p.t.Fatalf("Get of %x = %v, %v, want %v, %v", d, e, ok, want, known)
	}
}

// count asks for Count behind a call.
func (p *pair) count(call string) {
	p.t.Helper()
	n, size := p.index.Count()
	if want, bytes := p.model.count(); n != want || size != bytes {
		p.t.Fatalf("behind %s, Count = %d, %d, want %d, %d", call, n, size, want, bytes)
	}
}

// all asks for everything, which changes nothing.
func (p *pair) all() {
	p.t.Helper()
	p.row()
	for d := range p.asked {
		p.get(d)
	}
	p.get(spread(-1))
	p.count("Get")
	p.row()
	p.count("Row")
}

// row asks for all entries.
func (p *pair) row() {
	p.t.Helper()
	checkRow(p.t, p.index, p.model.row()...)
}

// twin answers a pair with an index that New made from the Row of this one.
func (p *pair) twin() *pair {
	p.t.Helper()
	out := newPair(p.t, p.index.Row()...)
	out.model = modelOf(p.model.row())
	for d := range p.asked {
		out.asked[d] = true
	}
	out.all()
	return out
}

// checkRow wants just these entries.
func checkRow(t *testing.T, x *Index, want ...api.Entry) {
	t.Helper()
	if got := x.Row(); !slices.EqualFunc(got, want, same) {
		t.Fatalf("Row = %v, want %v", got, want)
	}
}

func checkCount(t *testing.T, x *Index, present, size int) {
	t.Helper()
	if n, s := x.Count(); n != present || s != size {
		t.Fatalf("Count = %d, %d, want %d, %d", n, s, present, size)
	}
}

// withRoom answers the row l with spare room ahead of it and behind it, and a check that nothing of that has changed. The row nil stays nil.
func withRoom(l []int) ([]int, func(t *testing.T, call string)) {
	if l == nil {
		return nil, func(*testing.T, string) {}
	}
	room := slices.Concat([]int{71, -72}, l, []int{93, -94, 95})
	was := slices.Clone(room)
	return room[2 : 2+len(l)], func(t *testing.T, call string) {
		t.Helper()
		if !slices.Equal(room, was) {
			t.Fatalf("%s made %v of what came in as %v", call, room, was)
		}
	}
}

// entriesWithRoom answers the entries of l, with spare room around them and around each In, and a check that nothing of that has changed.
func entriesWithRoom(l []api.Entry) ([]api.Entry, func(t *testing.T, call string)) {
	if l == nil {
		return nil, func(*testing.T, string) {}
	}
	other := api.Entry{Digest: spread(-2), Kind: 77, Size: 78, In: []int{79}}
	room := slices.Concat([]api.Entry{other}, l, []api.Entry{other, other})
	var checks []func(t *testing.T, call string)
	for i := range room {
		in, stays := withRoom(room[i].In)
		room[i].In = in
		checks = append(checks, stays)
	}
	was := slices.Clone(room)
	return room[1 : 1+len(l)], func(t *testing.T, call string) {
		t.Helper()
		if !slices.EqualFunc(room, was, same) {
			t.Fatalf("%s made %v of what came in as %v", call, room, was)
		}
		for _, stays := range checks {
			stays(t, call)
		}
	}
}

// What the calls are made on.

var (
	zero     = api.Digest{}
	greatest = filled(255)
	alpha    = api.Digest{0: 1, 31: 2}
	beta     = api.Digest{0: 2, 31: 1}
)

// spread answers a digest, another one for each i, whose bytes follow no order.
func spread(i int) api.Digest { return sha256.Sum256([]byte(strconv.Itoa(i))) }

// near answers a digest, another one for each i, of which the first two bytes are the same.
func near(i int) api.Digest { return api.Digest{0: 7, 1: 9, 30: byte(i >> 8), 31: byte(i)} }

// filled answers the digest whose bytes are all b.
func filled(b byte) api.Digest { return api.Digest(bytes.Repeat([]byte{b}, 32)) }

// locIn answers where a record in segment seg is.
func locIn(seg int) api.Loc { return api.Loc{Seg: seg, Off: 37 + seg, Len: 62} }

// blob answers what the record of a blob in segment seg says.
func blob(d api.Digest, size, seg int) api.Word {
	return api.Word{Kind: api.RecBlob, Seq: 11, Digest: d, Size: size, Loc: locIn(seg)}
}

// image answers what the record of a manifest in segment seg says.
func image(d api.Digest, size, seg int) api.Word {
	return api.Word{Kind: api.RecManifest, Seq: 12, Digest: d, Size: size, Loc: locIn(seg)}
}

// deletion answers what a delete in segment seg says.
func deletion(d api.Digest, seg int) api.Word {
	return api.Word{Kind: api.RecDelete, Seq: 13, Digest: d, Loc: locIn(seg)}
}

// presentEntry answers the entry of a blob whose latest record is in segment seg.
func presentEntry(d api.Digest, size, seg int, in ...int) api.Entry {
	return api.Entry{Digest: d, Kind: api.RecBlob, Size: size, Loc: locIn(seg), In: in}
}

// imageEntry answers the entry of a manifest whose latest record is in segment seg.
func imageEntry(d api.Digest, size, seg int, in ...int) api.Entry {
	return api.Entry{Digest: d, Kind: api.RecManifest, Size: size, Loc: locIn(seg), In: in}
}

// deletedEntry answers the entry of what was deleted in segment seg.
func deletedEntry(d api.Digest, seg int, in ...int) api.Entry {
	return api.Entry{Digest: d, Kind: api.RecDelete, Loc: locIn(seg), In: in}
}

// lostEntry answers what is left of an entry whose latest record is lost.
func lostEntry(d api.Digest, in ...int) api.Entry {
	return api.Entry{Digest: d, Kind: api.RecDelete, In: in}
}

// otherKinds answers those that are none of a blob, a manifest and a delete.
func otherKinds() []int {
	return []int{api.RecTag, api.RecUntag, api.RecCommit, api.RecHeader, api.RecFooter, 0, -1, -2, -5, 9, 10, 99, 256 + api.RecBlob, 256 + api.RecDelete, 1<<32 + api.RecManifest, math.MinInt, math.MaxInt}
}

// sortsOfRows answers rows of segments: none, and with one, with several in order and in none, and with some of them twice.
func sortsOfRows() [][]int {
	return [][]int{
		nil, {}, {3}, {0}, {-1}, {1, 3}, {3, 1}, {3, 3}, {1, 2, 3, 4}, {4, 3, 2, 1}, {2, 4, 1, 3}, {3, 1, 3, 1, 1, 3}, {4, 4, 1, 4},
		{1, 0, -1, 0}, {math.MaxInt, 0, math.MinInt, 3, math.MaxInt}, {257, 1, 256}, {1<<32 + 1, 1}, {api.MaxNumber, 1, api.MaxNumber},
	}
}

// rowsOf answers all rows of just size numbers below n.
func rowsOf(size, n int) [][]int {
	out := [][]int{nil}
	for range size {
		var next [][]int
		for _, row := range out {
			for i := range n {
				next = append(next, append(slices.Clone(row), i))
			}
		}
		out = next
	}
	return out
}

// subsets answers all rows that have some of the segments, in their order.
func subsets(segs ...int) [][]int {
	var out [][]int
	for code := range 1 << len(segs) {
		var row []int
		for i, seg := range segs {
			if code>>i&1 == 1 {
				row = append(row, seg)
			}
		}
		out = append(out, row)
	}
	return out
}

// backwards answers l from the last one to the first.
func backwards[T any](l []T) []T {
	out := slices.Clone(l)
	slices.Reverse(out)
	return out
}

// orders answers l in several orders: as it is, backwards, from its middle on, and those at even places ahead of the others.
func orders[T any](l []T) [][]T {
	half := len(l) / 2
	var even, odd []T
	for i, v := range l {
		if i%2 == 0 {
			even = append(even, v)
		} else {
			odd = append(odd, v)
		}
	}
	return [][]T{l, backwards(l), slices.Concat(l[half:], l[:half]), slices.Concat(even, backwards(odd))}
}
