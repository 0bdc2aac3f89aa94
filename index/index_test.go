package index

import (
	"fmt"
	"math"
	"math/rand/v2"
	"slices"
	"testing"

	"stillage/api"
)

// methods are those of an index, as the chapter declares them.
type methods interface {
	Apply(w api.Word)
	Get(d api.Digest) (api.Entry, bool)
	Row() []api.Entry
	Keep(segs []int)
	Count() (int, int)
}

var (
	_ func(l []api.Entry) *Index = New
	_ methods                    = New(nil)
)

// P20.1, P20.2: what the chapter's examples of Row, Count and Keep say, one behind the other.
func TestExamples(t *testing.T) {
	x := New(nil)
	x.Apply(blob(beta, 5, 1))
	x.Apply(image(alpha, 7, 1))
	x.Apply(deletion(spread(1), 1))
	x.Apply(api.Word{Kind: api.RecTag, Digest: spread(2), Name: "v1", Loc: locIn(1)})
	x.Apply(deletion(beta, 2))
	checkRow(t, x, imageEntry(alpha, 7, 1, 1), deletedEntry(beta, 2, 1))
	checkCount(t, x, 1, 7)
	x.Apply(image(alpha, 7, 3))
	x.Keep([]int{2, 3})
	checkRow(t, x, imageEntry(alpha, 7, 3, 3))
	checkCount(t, x, 1, 7)
	if e, ok := x.Get(beta); ok || !same(e, api.Entry{}) {
		t.Errorf("Get = %v, %v", e, ok)
	}
}

// P20.1, P20.2: a blob, then its delete in another segment: one entry, and no digest is present.
func TestExampleOfDelete(t *testing.T) {
	x := New(nil)
	x.Apply(blob(alpha, 5, 1))
	checkRow(t, x, presentEntry(alpha, 5, 1, 1))
	checkCount(t, x, 1, 5)
	x.Apply(deletion(alpha, 2))
	checkRow(t, x, deletedEntry(alpha, 2, 1))
	checkCount(t, x, 0, 0)
}

// P20.1, P20.2: an index of no entries: nothing is there, nothing is kept, nothing can be deleted; then records come.
func TestNoEntries(t *testing.T) {
	for _, l := range [][]api.Entry{nil, {}} {
		p := newPair(t, l...)
		p.all()
		for _, d := range []api.Digest{zero, greatest, alpha, spread(1), near(1)} {
			p.get(d)
			p.apply(deletion(d, 1))
			p.all()
		}
		for _, segs := range sortsOfRows() {
			p.keep(segs...)
			p.all()
		}
		checkRow(t, p.index)
		checkCount(t, p.index, 0, 0)
		p.apply(blob(alpha, 5, 1))
		p.all()
		checkRow(t, p.index, presentEntry(alpha, 5, 1, 1))
	}
}

// P20.1, P20.2: an index of one entry, whichever, is just that; other digests are not there.
func TestOneEntry(t *testing.T) {
	for _, d := range []api.Digest{zero, greatest, alpha, beta, near(1), spread(1), {31: 1}, {1: 1}} {
		for _, e := range []api.Entry{
			presentEntry(d, 5, 3, 3), imageEntry(d, 0, 3, 1, 3), deletedEntry(d, 3, 1), deletedEntry(d, 3), lostEntry(d, 1, 3), presentEntry(d, 5, 3),
		} {
			p := newPair(t, e)
			checkRow(t, p.index, e)
			if got, ok := p.index.Get(d); !ok || !same(got, e) {
				t.Fatalf("Get = %v, %v, want %v", got, ok, e)
			}
			for _, other := range []api.Digest{zero, greatest, alpha, beta, near(1), near(2), spread(1), {31: 1}, {1: 1}} {
				p.get(other)
			}
			p.all()
		}
	}
}

// P20.1: each field of an entry is what came in, whatever it is.
func TestFieldsOfEntries(t *testing.T) {
	numbers := []int{0, 1, -1, 1 << 40, math.MinInt, math.MaxInt}
	for _, kind := range append(otherKinds(), api.RecBlob, api.RecManifest, api.RecDelete) {
		for _, n := range numbers {
			for _, m := range numbers {
				e := api.Entry{Digest: alpha, Kind: kind, Size: n, Loc: api.Loc{Seg: m, Off: n, Len: m}, In: []int{n, m, n}}
				p := newPair(t, deletedEntry(beta, 1, 1), e)
				checkRow(t, p.index, e, deletedEntry(beta, 1, 1))
				p.all()
			}
		}
	}
}

// P20.1: an index of many entries, which come in any order.
func TestManyEntries(t *testing.T) {
	for _, size := range []int{2, 3, 6, 7, 12, 13, 100, 1000} {
		var l []api.Entry
		for i := range size {
			switch i % 4 {
			case 0:
				l = append(l, presentEntry(spread(i), i, i%5, i%5, 7))
			case 1:
				l = append(l, imageEntry(near(i), 2*i, 3, 3))
			case 2:
				l = append(l, deletedEntry(spread(i), 2, 1, i))
			case 3:
				l = append(l, lostEntry(near(i), 4))
			}
		}
		for _, order := range orders(l) {
			newPair(t, order...).all()
		}
	}
}

// P20.1: of several entries of the same digest, the last one counts, and of the others nothing is left.
func TestLastEntryCounts(t *testing.T) {
	x := New([]api.Entry{presentEntry(alpha, 5, 1, 1), imageEntry(beta, 20, 1, 1), deletedEntry(alpha, 2, 1, 2), imageEntry(alpha, 7, 3, 3), presentEntry(beta, 30, 4, 4, 2)})
	checkRow(t, x, imageEntry(alpha, 7, 3, 3), presentEntry(beta, 30, 4, 4, 2))
	checkCount(t, x, 2, 37)
	x = New([]api.Entry{imageEntry(alpha, 7, 3, 3), deletedEntry(alpha, 2, 1, 2)})
	checkRow(t, x, deletedEntry(alpha, 2, 1, 2))
	checkCount(t, x, 0, 0)
	x.Keep([]int{3})
	checkRow(t, x)
}

// P20.1, P20.2: all rows of up to four of nine entries of three digests, then a record of one, and Keep.
func TestSmallRowsOfEntries(t *testing.T) {
	var all []api.Entry
	for _, d := range []api.Digest{near(2), zero, near(1)} {
		all = append(all, presentEntry(d, 5, 1, 1), imageEntry(d, 7, 2, 2, 1), deletedEntry(d, 3, 2))
	}
	for size := range 5 {
		for _, row := range rowsOf(size, len(all)) {
			var l []api.Entry
			for _, i := range row {
				l = append(l, all[i])
			}
			p := newPair(t, l...)
			p.all()
			p.apply(blob(near(1), 9, 3))
			p.row()
			p.keep(2, 3)
			p.all()
		}
	}
}

// P20.1: the In of an entry that came in stays as it came until a record of the digest or Keep puts it in order.
func TestInAsItCame(t *testing.T) {
	for _, in := range sortsOfRows() {
		for _, e := range []api.Entry{presentEntry(alpha, 5, 3, in...), deletedEntry(alpha, 3, in...)} {
			p := newPair(t, e, presentEntry(beta, 6, 1, 2, 1, 2))
			checkRow(t, p.index, e, presentEntry(beta, 6, 1, 2, 1, 2))
			for _, w := range []api.Word{image(alpha, 7, 3), blob(alpha, 8, 9), deletion(alpha, 3), deletion(alpha, 9)} {
				q := p.twin()
				q.apply(w)
				q.all()
				q.keep(3, 1, 9)
				q.all()
			}
			p.apply(blob(beta, 6, 1))
			checkRow(t, p.index, e, presentEntry(beta, 6, 1, 1, 2))
			p.keep(1, 2, 3)
			p.all()
			p.keep(3, 1, 3)
			p.all()
		}
	}
}

// P20.1: from where each field of an entry comes behind a record, of an entry and a record that differ in each.
func TestFieldsOfRecords(t *testing.T) {
	was := api.Entry{Digest: alpha, Kind: api.RecManifest, Size: 11, Loc: api.Loc{Seg: 21, Off: 22, Len: 23}, In: []int{31, 32}}
	w := api.Word{Kind: api.RecBlob, Seq: 41, Digest: alpha, Name: "v2", Size: 51, Loc: api.Loc{Seg: 61, Off: 62, Len: 63}}
	x := New([]api.Entry{was})
	x.Apply(w)
	checkRow(t, x, api.Entry{Digest: alpha, Kind: api.RecBlob, Size: 51, Loc: w.Loc, In: []int{31, 32, 61}})
	w.Kind, w.Loc.Seg = api.RecDelete, 71
	x.Apply(w)
	checkRow(t, x, api.Entry{Digest: alpha, Kind: api.RecDelete, Loc: w.Loc, In: []int{31, 32, 61}})
	w.Kind, w.Loc.Seg = api.RecManifest, 1
	x.Apply(w)
	checkRow(t, x, api.Entry{Digest: alpha, Kind: api.RecManifest, Size: 51, Loc: w.Loc, In: []int{1, 31, 32, 61}})
	x = New(nil)
	x.Apply(w)
	checkRow(t, x, api.Entry{Digest: alpha, Kind: api.RecManifest, Size: 51, Loc: w.Loc, In: []int{1}})
}

// sortsOfEntries answers entries of alpha: one that is present as a blob or a manifest, deleted and lost.
func sortsOfEntries() []api.Entry {
	return []api.Entry{presentEntry(alpha, 5, 1, 1), imageEntry(alpha, 7, 3, 1, 3), deletedEntry(alpha, 2, 1), deletedEntry(alpha, 2), lostEntry(alpha, 3)}
}

// P20.1: records of kinds that are none of a blob, a manifest and a delete change nothing, whether their digest is unknown, present or deleted.
func TestOtherKinds(t *testing.T) {
	for _, kind := range otherKinds() {
		for _, e := range sortsOfEntries() {
			p := newPair(t, e, presentEntry(spread(1), 3, 1, 1))
			was := p.index.Row()
			for _, d := range []api.Digest{alpha, spread(1), beta, zero, greatest} {
				for _, seg := range []int{1, 2, 9} {
					p.apply(api.Word{Kind: kind, Seq: 9, Digest: d, Name: "v1", Size: 77, Loc: locIn(seg)})
				}
				checkRow(t, p.index, was...)
			}
			p.all()
		}
		p := newPair(t)
		p.apply(api.Word{Kind: kind, Digest: alpha, Name: "v1", Size: 77, Loc: locIn(1)})
		p.all()
		checkRow(t, p.index)
	}
}

// P20.1: a blob, a manifest and a delete of a digest that is unknown, present, deleted and lost.
func TestKinds(t *testing.T) {
	unknown := func() *Index { return New([]api.Entry{presentEntry(beta, 9, 1, 1)}) }
	x := unknown()
	x.Apply(deletion(alpha, 4))
	checkRow(t, x, presentEntry(beta, 9, 1, 1))
	checkCount(t, x, 1, 9)
	x.Apply(blob(alpha, 6, 4))
	checkRow(t, x, presentEntry(alpha, 6, 4, 4), presentEntry(beta, 9, 1, 1))
	checkCount(t, x, 2, 15)
	x = unknown()
	x.Apply(image(alpha, 6, 4))
	checkRow(t, x, imageEntry(alpha, 6, 4, 4), presentEntry(beta, 9, 1, 1))
	for i, e := range sortsOfEntries() {
		in := [][]int{{1, 4}, {1, 3, 4}, {1, 4}, {4}, {3, 4}}[i]
		x = New([]api.Entry{e})
		x.Apply(blob(alpha, 6, 4))
		checkRow(t, x, presentEntry(alpha, 6, 4, in...))
		checkCount(t, x, 1, 6)
		x = New([]api.Entry{e})
		x.Apply(image(alpha, 8, 4))
		checkRow(t, x, imageEntry(alpha, 8, 4, in...))
		checkCount(t, x, 1, 8)
		x = New([]api.Entry{e})
		x.Apply(deletion(alpha, 4))
		checkRow(t, x, deletedEntry(alpha, 4, e.In...))
		checkCount(t, x, 0, 0)
		x.Apply(deletion(alpha, 5))
		checkRow(t, x, deletedEntry(alpha, 5, e.In...))
		checkCount(t, x, 0, 0)
	}
}

// P20.1: a delete of an unknown digest leaves nothing behind, so that the digest is written as if there had been none.
func TestDeleteOfUnknown(t *testing.T) {
	for _, d := range []api.Digest{zero, greatest, near(3), spread(1)} {
		p := newPair(t, presentEntry(near(1), 5, 1, 1), deletedEntry(near(2), 2, 1))
		for range 3 {
			p.apply(deletion(d, 4))
			p.all()
		}
		p.apply(blob(d, 6, 5))
		p.all()
		if e, ok := p.index.Get(d); !ok || !same(e, presentEntry(d, 6, 5, 5)) {
			t.Errorf("Get = %v, %v", e, ok)
		}
		// What Keep has removed is unknown again.
		p.keep(1, 2)
		p.apply(deletion(d, 4))
		p.all()
		p.get(d)
		if e, ok := p.index.Get(d); ok {
			t.Errorf("Get = %v", e)
		}
	}
}

// P20.1: the zero digest and the greatest one, beside none and many others.
func TestLeastAndGreatest(t *testing.T) {
	for size := range 30 {
		p := newPair(t)
		p.apply(blob(greatest, 1, 1))
		for i := range size {
			p.apply(image(spread(i), 3, 1))
		}
		p.apply(image(zero, 2, 2))
		p.all()
		if l := p.index.Row(); l[0].Digest != zero || l[size+1].Digest != greatest {
			t.Fatalf("Row = %v", l)
		}
		p.apply(deletion(zero, 3))
		p.apply(deletion(greatest, 3))
		p.all()
		p.keep(2, 3)
		p.all()
		checkRow(t, p.index, deletedEntry(zero, 3, 2))
		p.apply(blob(zero, 4, 1))
		p.all()
	}
}

// P20.1: digests that differ in one byte only, also in one behind the first two: each has an entry of its own, and Row holds whole digests against each other.
func TestOneByte(t *testing.T) {
	for _, base := range []api.Digest{zero, greatest, spread(1)} {
		for _, from := range []int{0, 2} {
			l := []api.Digest{base}
			for i := from; i < 32; i++ {
				for _, change := range []byte{1, 128, 255} {
					d := base
					d[i] ^= change
					l = append(l, d)
				}
			}
			p := newPair(t)
			for i, d := range l {
				p.apply(blob(d, i, i%3))
				p.get(l[(i+1)%len(l)])
			}
			p.all()
			for i, d := range l {
				if i%2 == 0 {
					p.apply(deletion(d, 1))
					p.get(l[(i+1)%len(l)])
				}
			}
			p.all()
			p.keep(1, 2)
			p.all()
		}
	}
}

// P20.1: in an index of one digest, one that differs in one bit is unknown: neither its delete nor its blob touches the other.
func TestOneBit(t *testing.T) {
	for bit := range 256 {
		d := spread(bit)
		other := d
		other[bit/8] ^= 1 << (bit % 8)
		p := newPair(t, presentEntry(d, 5, 1, 1))
		p.get(other)
		p.apply(deletion(other, 2))
		p.all()
		p.apply(blob(other, 6, 3))
		p.all()
		p.keep(1)
		p.all()
	}
}

// P20.1: Row is ascending, in whichever order the records come, and has each digest once.
func TestRow(t *testing.T) {
	for _, size := range []int{0, 1, 2, 5, 6, 7, 12, 13, 100, 800} {
		var l []api.Digest
		for i := range size {
			l = append(l, []api.Digest{spread(i), near(i)}[i%2])
		}
		ascending := newPair(t)
		for i, d := range l {
			ascending.apply(blob(d, i, 1))
		}
		l = nil
		for _, e := range ascending.index.Row() {
			l = append(l, e.Digest)
		}
		for _, order := range orders(l) {
			p := newPair(t)
			for i, d := range order {
				p.apply(blob(d, i, 1))
				p.apply(image(order[i/2], i, 2))
				if size <= 13 {
					p.row()
				}
			}
			p.all()
		}
	}
}

// four are an index's digests for Keep, with entries that are present, deleted and lost.
func four() []api.Entry {
	return []api.Entry{
		presentEntry(near(1), 5, 1, 1),
		imageEntry(near(2), 7, 3, 2, 3),
		deletedEntry(near(3), 3, 1, 2),
		lostEntry(near(4), 2),
	}
}

// P20.2: what Keep of no segment, of some, of all and of others leaves.
func TestKeep(t *testing.T) {
	all := four()
	for _, c := range []struct {
		segs []int
		want []api.Entry
	}{
		{nil, nil},
		{[]int{}, nil},
		{[]int{4}, nil},
		{[]int{0, -1, 4, 99}, nil},
		{[]int{257, 258, 1<<32 + 1, -2, -3}, nil},
		{[]int{1}, []api.Entry{all[0], lostEntry(near(3), 1)}},
		{[]int{2}, []api.Entry{lostEntry(near(2), 2), lostEntry(near(3), 2), all[3]}},
		{[]int{3}, []api.Entry{imageEntry(near(2), 7, 3, 3)}},
		{[]int{1, 2}, []api.Entry{all[0], lostEntry(near(2), 2), lostEntry(near(3), 1, 2), all[3]}},
		{[]int{2, 1}, []api.Entry{all[0], lostEntry(near(2), 2), lostEntry(near(3), 1, 2), all[3]}},
		{[]int{1, 3}, []api.Entry{all[0], imageEntry(near(2), 7, 3, 3), deletedEntry(near(3), 3, 1)}},
		{[]int{3, 1, 3, 1, 1}, []api.Entry{all[0], imageEntry(near(2), 7, 3, 3), deletedEntry(near(3), 3, 1)}},
		{[]int{2, 3}, []api.Entry{all[1], deletedEntry(near(3), 3, 2), all[3]}},
		{[]int{1, 2, 3}, all},
		{[]int{3, 1, 2}, all},
		{[]int{9, 3, 0, 2, 2, 1, -5, 3}, all},
	} {
		p := newPair(t, all...)
		p.keep(c.segs...)
		checkRow(t, p.index, c.want...)
		p.all()
		p.keep(c.segs...)
		checkRow(t, p.index, c.want...)
		p.all()
	}
}

// P20.2: what was lost counts as deleted: it is not present, and a later record replaces it.
func TestLost(t *testing.T) {
	x := New([]api.Entry{imageEntry(alpha, 7, 3, 2, 3), presentEntry(beta, 5, 2, 2)})
	checkCount(t, x, 2, 12)
	x.Keep([]int{2})
	checkRow(t, x, lostEntry(alpha, 2), presentEntry(beta, 5, 2, 2))
	checkCount(t, x, 1, 5)
	if e, ok := x.Get(alpha); !ok || !same(e, lostEntry(alpha, 2)) {
		t.Errorf("Get = %v, %v", e, ok)
	}
	x.Apply(blob(alpha, 9, 1))
	checkRow(t, x, presentEntry(alpha, 9, 1, 1, 2), presentEntry(beta, 5, 2, 2))
	checkCount(t, x, 2, 14)
	x.Keep([]int{2})
	x.Apply(deletion(alpha, 4))
	checkRow(t, x, deletedEntry(alpha, 4, 2), presentEntry(beta, 5, 2, 2))
	checkCount(t, x, 1, 5)
	x.Keep([]int{4})
	checkRow(t, x)
	checkCount(t, x, 0, 0)
}

// P20.2: an entry is kept with no segment left in its In if its latest record is there and is no delete.
func TestKeepWithoutIn(t *testing.T) {
	p := newPair(t, presentEntry(near(1), 5, 3), presentEntry(near(2), 6, 3, 1), deletedEntry(near(3), 3), deletedEntry(near(4), 3, 1), presentEntry(near(5), 7, 2))
	p.keep(3)
	checkRow(t, p.index, presentEntry(near(1), 5, 3), presentEntry(near(2), 6, 3))
	checkCount(t, p.index, 2, 11)
	p.all()
	p.keep()
	checkRow(t, p.index)
	p.all()
}

// P20.2: each subset of the segments, and then each subset of those; entries of all sorts, so many that some have one slot.
func TestKeepSubsets(t *testing.T) {
	var l []api.Entry
	for i, in := range subsets(0, 1, 2, 3) {
		for seg := range 5 {
			l = append(l, presentEntry(near(10*i+seg), 1+i, seg, in...), deletedEntry(spread(10*i+seg), seg, in...))
		}
	}
	for _, more := range subsets(0, 1, 2, 3, 4) {
		for _, fewer := range subsets(more...) {
			p := newPair(t, l...)
			p.keep(more...)
			p.row()
			p.keep(append(backwards(fewer), fewer...)...)
			p.row()
			once := newPair(t, l...)
			once.keep(fewer...)
			checkRow(t, p.index, once.index.Row()...)
		}
	}
}

// P20.2: In and segments of all sorts.
func TestKeepOfRows(t *testing.T) {
	for _, in := range sortsOfRows() {
		for _, segs := range sortsOfRows() {
			for _, seg := range []int{0, 1, 3, -1, math.MaxInt, 77} {
				p := newPair(t, presentEntry(near(1), 5, seg, in...), deletedEntry(near(2), seg, in...), lostEntry(near(3), in...))
				p.keep(segs...)
				p.all()
				p.keep(append(slices.Clone(segs), in...)...)
				p.all()
			}
		}
	}
}

// P20.1, P20.2: records behind Keep, of what was kept, of what was lost and of what was removed.
func TestRecordsBehindKeep(t *testing.T) {
	for _, segs := range subsets(1, 2, 3) {
		for seg := 1; seg < 5; seg++ {
			for i := range 6 {
				for _, w := range []api.Word{blob(near(i), 9, seg), image(near(i), 4, seg), deletion(near(i), seg)} {
					p := newPair(t, four()...)
					p.keep(segs...)
					p.apply(w)
					p.all()
					p.keep(seg)
					p.all()
					p.apply(w)
					p.all()
				}
			}
		}
	}
}

// P20.1, P20.2: an index made behind Keep of another one has nothing of that.
func TestNewBehindKeep(t *testing.T) {
	p := newPair(t, four()...)
	p.keep(1)
	q := newPair(t, four()...)
	q.all()
	q.keep(3)
	p.all()
	newPair(t).all()
	newPair(t, p.index.Row()...).all()
	q.all()
}

// P20.2: Count behind each of the calls.
func TestCount(t *testing.T) {
	x := New(nil)
	for _, c := range []struct {
		do            func()
		present, size int
	}{
		{func() {}, 0, 0},
		{func() { x.Apply(blob(near(1), 5, 1)) }, 1, 5},
		{func() { x.Apply(blob(near(2), 0, 1)) }, 2, 5},
		{func() { x.Apply(image(near(3), 70, 2)) }, 3, 75},
		{func() { x.Apply(image(near(3), 70, 3)) }, 3, 75},
		{func() { x.Apply(blob(near(3), 60, 3)) }, 3, 65},
		{func() { x.Apply(deletion(near(9), 3)) }, 3, 65},
		{func() { x.Apply(api.Word{Kind: api.RecTag, Digest: near(8), Size: 9}) }, 3, 65},
		{func() { x.Apply(api.Word{Kind: api.RecCommit, Digest: near(1), Size: 9}) }, 3, 65},
		{func() { x.Apply(deletion(near(2), 3)) }, 2, 65},
		{func() { x.Apply(deletion(near(3), 4)) }, 1, 5},
		{func() { x.Apply(deletion(near(3), 4)) }, 1, 5},
		{func() { x.Apply(image(near(3), 7, 5)) }, 2, 12},
		{func() { x.Keep([]int{1, 2, 3, 4, 5}) }, 2, 12},
		{func() { x.Keep([]int{1, 2, 3, 4}) }, 1, 5},
		{func() { x.Apply(image(near(3), 7, 4)) }, 2, 12},
		{func() { x.Keep([]int{4}) }, 1, 7},
		{func() { x.Get(near(3)); x.Get(near(1)); x.Row() }, 1, 7},
		{func() { x.Keep(nil) }, 0, 0},
		{func() { x.Apply(deletion(near(3), 6)) }, 0, 0},
		{func() { x.Apply(blob(near(3), 8, 6)) }, 1, 8},
		{func() { x = New(append(x.Row(), presentEntry(near(4), 30, 6, 6), deletedEntry(near(5), 6, 6))) }, 2, 38},
		{func() { x = New(append(x.Row(), deletedEntry(near(3), 6, 6))) }, 1, 30},
		{func() {
			x = New([]api.Entry{presentEntry(near(1), 1, 1), presentEntry(near(1), 2, 1), presentEntry(near(1), 4, 1)})
		}, 1, 4},
	} {
		c.do()
		checkCount(t, x, c.present, c.size)
		checkCount(t, x, c.present, c.size)
	}
}

// P20.1, P20.2: an index made from the Row of another one answers all calls as that one does.
func TestFromRow(t *testing.T) {
	random := rand.New(rand.NewPCG(20, 1))
	for size := range 60 {
		p := newPair(t)
		for range 2 * size {
			p.drawn(random, size, 6)
		}
		q := p.twin()
		for range 40 {
			seed := random.Uint64()
			p.drawn(rand.New(rand.NewPCG(20, seed)), size+2, 6)
			q.drawn(rand.New(rand.NewPCG(20, seed)), size+2, 6)
			checkRow(t, q.index, p.index.Row()...)
		}
		p.all()
		q.all()
	}
}

// drawn makes a drawn call on one of about so many digests and of so many segments.
func (p *pair) drawn(random *rand.Rand, digests, segs int) {
	p.t.Helper()
	i, seg := random.IntN(digests+1), random.IntN(segs)
	d := []api.Digest{spread(i), near(i)}[i%2]
	switch draw := random.IntN(20); {
	case draw < 6:
		p.apply(blob(d, random.IntN(100), seg))
	case draw < 10:
		p.apply(image(d, random.IntN(100), seg))
	case draw < 15:
		p.apply(deletion(d, seg))
	case draw < 16:
		kinds := otherKinds()
		p.apply(api.Word{Kind: kinds[random.IntN(len(kinds))], Digest: d, Name: "v1", Size: 3, Loc: locIn(seg)})
	case draw < 18:
		p.get(d)
	default:
		var l []int
		for s := range segs {
			if random.IntN(8) > 0 {
				l = append(l, s)
			}
		}
		random.Shuffle(len(l), func(i, j int) { l[i], l[j] = l[j], l[i] })
		p.keep(l...)
	}
}

// P20.1, P20.2: long drawn rows of calls on indexes of few digests and of many.
func TestLongRowsOfCalls(t *testing.T) {
	random := rand.New(rand.NewPCG(20, 61))
	for range 150 {
		digests, segs := 1+random.IntN(1<<random.IntN(9)), 1+random.IntN(1<<random.IntN(6))
		p := newPair(t)
		for n := range 600 {
			p.drawn(random, digests, segs)
			if n%60 == 0 {
				p.all()
			}
			if n%200 == 199 {
				p = p.twin()
			}
		}
		p.all()
	}
}

// P20.1, P20.2: all rows of up to four of fifteen calls, on two digests and three segments.
func TestShortRowsOfCalls(t *testing.T) {
	var calls []func(p *pair)
	for seg := 1; seg <= 3; seg++ {
		for _, w := range []api.Word{blob(near(1), 5, seg), deletion(near(1), seg), image(near(2), 7, seg), deletion(near(2), seg)} {
			calls = append(calls, func(p *pair) { p.apply(w) })
		}
		others := slices.DeleteFunc([]int{3, 1, 2}, func(n int) bool { return n == seg })
		calls = append(calls, func(p *pair) { p.keep(others...) })
	}
	for size := range 5 {
		for _, row := range rowsOf(size, len(calls)) {
			p := newPair(t)
			for _, i := range row {
				calls[i](p)
			}
			p.all()
		}
	}
}

// P20.1, P20.2: so many digests that each table must grow often; they are written, written again, deleted, and go with their segments.
func TestThousands(t *testing.T) {
	const size = 20000
	x, m := New(nil), model{}
	do := func(w api.Word) {
		x.Apply(w)
		m.apply(w)
	}
	check := func() {
		t.Helper()
		checkRow(t, x, m.row()...)
		n, s := m.count()
		checkCount(t, x, n, s)
		for i := range size {
			want, known := m[spread(i)]
			if e, ok := x.Get(spread(i)); ok != known || !same(e, want) {
				t.Fatalf("Get = %v, %v, want %v, %v", e, ok, want, known)
			}
		}
	}
	for i := range size {
		do(blob(spread(i), i%100, 1+i*8/size))
		if i%3 == 0 {
			do(deletion(spread(i/2), 9))
		}
		if i%5 == 0 {
			do(image(spread(i/5*4), 7, 10))
		}
	}
	check()
	for _, segs := range [][]int{{1, 2, 3, 4, 5, 6, 7, 8, 9, 10}, {2, 4, 6, 8, 9, 10}, {10, 8, 8, 4}, {8}, {9}} {
		x.Keep(segs)
		m.keep(segs)
		check()
	}
	for i := range size {
		do(image(spread(i), 1, 3))
	}
	check()
	y := New(x.Row())
	checkRow(t, y, x.Row()...)
	checkCount(t, y, size, size)
}

// P20.1, P20.2: numbers such as no record has are taken as they are.
func TestWrongNumbers(t *testing.T) {
	numbers := []int{0, -1, -99, 1 << 40, math.MinInt, math.MaxInt}
	for _, n := range numbers {
		for _, m := range numbers {
			p := newPair(t, presentEntry(near(1), 5, 1, 1), deletedEntry(near(2), n, m, n, m))
			for _, w := range []api.Word{
				{Kind: api.RecBlob, Seq: math.MaxUint64, Digest: near(3), Name: "V 1", Size: n, Loc: api.Loc{Seg: m, Off: n, Len: m}},
				{Kind: api.RecManifest, Digest: near(2), Size: n, Loc: api.Loc{Seg: m, Off: m, Len: n}},
				{Kind: api.RecDelete, Digest: near(1), Size: n, Loc: api.Loc{Seg: n, Off: m, Len: m}},
			} {
				p.apply(w)
				p.all()
			}
			p.keep(n, 1)
			p.all()
			p.keep(m)
			p.all()
			p.keep(7)
			p.all()
		}
	}
}

// P20.1, P20.2: an index of zero entries and records of zero values.
func TestZeros(t *testing.T) {
	p := newPair(t, api.Entry{})
	checkRow(t, p.index, api.Entry{})
	p.all()
	p.apply(api.Word{})
	p.all()
	p.apply(api.Word{Kind: api.RecDelete})
	checkRow(t, p.index, api.Entry{Kind: api.RecDelete})
	p.all()
	p.apply(api.Word{Kind: api.RecBlob})
	checkRow(t, p.index, api.Entry{Kind: api.RecBlob, In: []int{0}})
	p.keep(0)
	checkRow(t, p.index, api.Entry{Kind: api.RecBlob, In: []int{0}})
	p.all()
	p.keep(1)
	checkRow(t, p.index)
	p.all()
}

// P20.3: the methods of a nil index do nothing and answer zero values.
func TestNil(t *testing.T) {
	var x *Index
	check := func() {
		t.Helper()
		for _, d := range []api.Digest{zero, greatest, alpha} {
			if e, ok := x.Get(d); ok || !same(e, api.Entry{}) {
				t.Fatalf("Get = %v, %v", e, ok)
			}
		}
		if l := x.Row(); len(l) != 0 {
			t.Fatalf("Row = %v", l)
		}
		checkCount(t, x, 0, 0)
		if x != nil {
			t.Fatal("it is an index now")
		}
	}
	check()
	for _, kind := range append(otherKinds(), api.RecBlob, api.RecManifest, api.RecDelete) {
		for _, d := range []api.Digest{zero, greatest, alpha} {
			x.Apply(api.Word{Kind: kind, Digest: d, Size: 5, Loc: locIn(1)})
			check()
		}
	}
	for _, segs := range sortsOfRows() {
		given, stays := withRoom(segs)
		x.Keep(given)
		stays(t, "Keep")
		check()
	}
}

// R3: an index keeps no memory that came in: whatever becomes of it, the index stays.
func TestNothingIsKept(t *testing.T) {
	for _, in := range sortsOfRows() {
		l := []api.Entry{presentEntry(near(1), 5, 3, slices.Clone(in)...), deletedEntry(near(2), 3, slices.Clone(in)...)}
		p := newPair(t)
		p.index, p.model = New(l), modelOf(l)
		for i := range l {
			for j := range l[i].In {
				l[i].In[j] += 1000
			}
			_ = append(l[i].In[:0], 5)
			l[i] = presentEntry(near(3), 9, 9, 9)
		}
		p.all()
		segs := append(slices.Clone(in), 3)
		p.index.Keep(segs)
		p.model.keep(slices.Clone(segs))
		for i := range segs {
			segs[i] = -7
		}
		p.all()
		p.apply(blob(near(1), 6, 4))
		p.all()
	}
}

// R3: what Row and Get answer is new memory: whatever is done to it, the index and the other answers stay as they were.
func TestAnswersAreNew(t *testing.T) {
	for _, in := range sortsOfRows() {
		p := newPair(t, presentEntry(near(1), 5, 3, in...), imageEntry(near(2), 6, 1, in...), deletedEntry(near(3), 3, in...))
		p.apply(blob(near(4), 7, 3))
		p.apply(blob(near(4), 7, 1))
		for range 2 {
			row := p.index.Row()
			one, _ := p.index.Get(near(1))
			four, _ := p.index.Get(near(4))
			for _, e := range append(row, one, four) {
				in := append(e.In, -5, -5, -5)
				for i := range in {
					in[i] = -7
				}
				for i := range e.In {
					e.In[i] = -8
				}
			}
			clear(row)
			p.all()
			p.keep(3, 1, 0)
			p.all()
		}
	}
}

// R3: no two rows of segments of one answer share memory.
func TestRowsOfOneAnswer(t *testing.T) {
	in := append(make([]int, 0, 9), 1, 3)
	x := New([]api.Entry{{Digest: near(1), In: in}, {Digest: near(2), In: in}, {Digest: near(3), In: in[:1]}})
	for range 2 {
		l := x.Row()
		for i := range l {
			was := l[i]
			was.In = slices.Clone(was.In)
			for j := range l {
				if j != i {
					clear(l[j].In)
					_ = append(l[j].In, 8, 8)
				}
			}
			if !same(l[i], was) {
				t.Fatalf("%v became %v", was, l[i])
			}
			l = x.Row()
		}
		x.Keep([]int{3, 1, 0})
	}
}

// R3: what Row and Get answered stays as it was, whatever is called then.
func TestAnswersStay(t *testing.T) {
	p := newPair(t, four()...)
	p.apply(blob(near(5), 5, 2))
	type answer struct {
		call     string
		got, was []api.Entry
	}
	var answers []answer
	ask := func(call string) {
		row := p.index.Row()
		for d := range p.asked {
			if e, ok := p.index.Get(d); ok {
				row = append(row, e)
			}
		}
		was := slices.Clone(row)
		for i := range was {
			was[i].In = slices.Clone(was[i].In)
		}
		answers = append(answers, answer{call, row, was})
		for _, a := range answers {
			if !slices.EqualFunc(a.got, a.was, same) {
				t.Fatalf("behind %s, an answer behind %s became %v, it was %v", call, a.call, a.got, a.was)
			}
		}
	}
	ask("New")
	for i := range 7 {
		for seg := range 4 {
			for _, w := range []api.Word{blob(near(i), 5, seg), deletion(near(i), seg), image(near(i), 6, 3-seg)} {
				p.apply(w)
				ask(fmt.Sprintf("Apply of %v", w))
			}
		}
	}
	for _, segs := range [][]int{{3, 2, 1, 0}, {0, 2, 3}, {3, 2}, {2, 3, 3}, {2}, nil} {
		p.keep(segs...)
		ask(fmt.Sprintf("Keep of %v", segs))
	}
	for i := range 20 {
		p.apply(blob(near(i), 1, 1))
		ask("the last calls")
	}
}

// R4: indexes on which the same calls are made answer the same; so do those that were made of the same entries in another order, and those whose records of different digests came in another order.
func TestSameCalls(t *testing.T) {
	var l []api.Entry
	var words []api.Word
	for i := range 300 {
		l = append(l, presentEntry(spread(i), i, i%4, i%4, 2))
		words = append(words, image(near(i), i, i%3), deletion(spread(i), 3))
	}
	first := New(l)
	for _, w := range words {
		first.Apply(w)
	}
	first.Keep([]int{1, 2, 3})
	present, size := first.Count()
	for _, entries := range append(orders(l), orders(l)...) {
		for _, order := range orders(words) {
			x := New(entries)
			for _, w := range order {
				x.Apply(w)
			}
			x.Keep([]int{3, 1, 2, 1})
			checkRow(t, x, first.Row()...)
			checkCount(t, x, present, size)
		}
	}
}

// R4: two indexes side by side do not meddle with each other, also if they were made of the same entries.
func TestTwoIndexes(t *testing.T) {
	l := four()
	p, q := newPair(t), newPair(t)
	p.index, p.model = New(l), modelOf(l)
	q.index, q.model = New(l), modelOf(l)
	for i := range 6 {
		p.apply(blob(near(i), 9, 4))
		q.all()
		q.apply(deletion(near(i), 2))
		p.all()
	}
	p.keep(4, 1)
	q.all()
	q.keep(2, 3)
	p.all()
	q.keep()
	p.all()
	q.apply(blob(near(1), 1, 1))
	p.all()
	q.all()
}

// R1: thousands of digests that have one slot, and entries of thousands of segments: each call comes to its end.
func TestLong(t *testing.T) {
	p := newPair(t)
	for i := range 1500 {
		p.apply(blob(near(i), 1, i%3))
	}
	p.all()
	p.keep(2, 0)
	p.all()
	x := New(nil)
	var want []int
	for seg := range 3000 {
		x.Apply(blob(alpha, 1, seg*7%3000))
		want = append(want, seg)
	}
	checkRow(t, x, presentEntry(alpha, 1, 2999*7%3000, want...))
	x.Keep(backwards(want))
	checkRow(t, x, presentEntry(alpha, 1, 2999*7%3000, want...))
	x.Keep(want[:100])
	checkRow(t, x, lostEntry(alpha, want[:100]...))
}
