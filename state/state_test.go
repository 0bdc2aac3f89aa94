package state

import (
	"fmt"
	"math"
	"math/rand/v2"
	"slices"
	"strings"
	"testing"

	"stillage/api"
)

// methods are those of a state, as the chapter declares them.
type methods interface {
	Apply(w api.Word)
	Keep(segs []int)
	Digest(d api.Digest) (api.Entry, bool)
	Tag(name string) (api.TagEntry, bool)
	Here(seg int) []api.Word
	Loads() []api.Load
	Snapshot() api.Snapshot
	List(after string, n int) []string
	Names() []api.Digest
	Count() (int, int, int)
}

var (
	_ func(s api.Snapshot) *State = New
	_ methods                     = New(api.Snapshot{})
)

// P22.1, P22.2: what the chapter's examples of Loads, Here, Count and Keep say, one behind the other.
func TestExamples(t *testing.T) {
	a, b := dig(1), dig(2)
	first := []api.Word{
		{Kind: api.RecBlob, Seq: 1, Digest: a, Size: 9, Loc: loc(1, 37, 62)},
		{Kind: api.RecManifest, Seq: 2, Digest: b, Size: 20, Loc: loc(1, 128, 73)},
		{Kind: api.RecTag, Seq: 3, Digest: b, Name: "v", Loc: loc(1, 230, 55)},
	}
	second := []api.Word{
		{Kind: api.RecTag, Seq: 5, Digest: b, Name: "v", Loc: loc(2, 37, 55)},
		{Kind: api.RecDelete, Seq: 6, Digest: a, Loc: loc(2, 92, 53)},
		{Kind: api.RecCommit, Seq: 7, Size: 108, Loc: loc(2, 145, 29)},
	}
	x := New(api.Snapshot{})
	for _, w := range append(first, second...) {
		x.Apply(w)
	}
	checkLoads(t, x, api.Load{Seg: 1, All: 190, Live: 73}, api.Load{Seg: 2, All: 108, Live: 108})
	checkHere(t, x, 1, told(first[1]))
	checkHere(t, x, 2, told(second[0]), told(second[1]))
	checkCount(t, x, 1, 20, 1)
	duplicate := first[1]
	duplicate.Loc = loc(2, 174, 73)
	x.Apply(duplicate)
	checkHere(t, x, 1)
	x.Keep([]int{2})
	checkLoads(t, x, api.Load{Seg: 2, All: 181, Live: 128})
	checkDigest(t, x, a, api.Entry{}, false)
	checkDigest(t, x, b, putEntry(duplicate, 2), true)
	checkTag(t, x, "v", tagEntry(second[0], 2), true)
	checkCount(t, x, 1, 20, 1)
}

// P22.2: a blob in segment 1 and its delete in segment 2.
func TestExampleOfDelete(t *testing.T) {
	x := New(api.Snapshot{})
	x.Apply(blob(dig(1), 5, 1))
	checkHere(t, x, 1, told(blob(dig(1), 5, 1)))
	x.Apply(deletion(dig(1), 2))
	checkHere(t, x, 1)
	checkHere(t, x, 2, told(deletion(dig(1), 2)))
	checkLoads(t, x, api.Load{Seg: 1, All: 58}, api.Load{Seg: 2, All: 53, Live: 53})
}

// P22.1, P22.2: a state of a zero snapshot: nothing is there, nothing is kept; then records come.
func TestZeroSnapshot(t *testing.T) {
	for _, s := range []api.Snapshot{{}, {Digests: []api.Entry{}, Tags: []api.TagEntry{}, Loads: []api.Load{}}, {Number: 1, Seg: 2, Off: 3, Seq: 4}} {
		p := newPair(t, s)
		p.all()
		for _, segs := range sortsOfRows() {
			p.keep(segs...)
			p.all()
		}
		checkSnapshot(t, p.state, api.Snapshot{})
		checkCount(t, p.state, 0, 0, 0)
		p.apply(blob(dig(1), 5, 1))
		p.all()
		checkSnapshot(t, p.state, api.Snapshot{Digests: []api.Entry{putEntry(blob(dig(1), 5, 1), 1)}, Loads: []api.Load{{Seg: 1, All: 58, Live: 58}}})
	}
}

// full answers a snapshot with a number, entries of all sorts, and loads of segments with live records, without any and without entries.
func full() api.Snapshot {
	lost, lostTag := api.Entry{Digest: dig(4), Kind: api.RecDelete, In: []int{2}}, api.TagEntry{Name: nth(4), Gone: true, In: []int{1}}
	return api.Snapshot{
		Number: 7, Seg: 3, Off: 500, Seq: 99,
		Digests: []api.Entry{putEntry(blob(dig(1), 5, 1), 1), putEntry(image(dig(2), 20, 3), 2, 3), putEntry(deletion(dig(3), 3), 1, 2), lost},
		Tags:    []api.TagEntry{tagEntry(tag(nth(1), dig(1), 1), 1), tagEntry(tag(nth(2), dig(2), 3), 2, 3), tagEntry(untag(nth(3), 3), 1, 2), lostTag},
		Loads:   []api.Load{{Seg: 1, All: 900, Live: 114}, {Seg: 2, All: 300}, {Seg: 3, All: 250, Live: 206}, {Seg: 5, All: 40}},
	}
}

// P22.1, P22.2: what a state takes over from a snapshot, and that of the other fields nothing comes back.
func TestSnapshotTakenOver(t *testing.T) {
	s := full()
	x := New(s)
	s.Number, s.Seg, s.Off, s.Seq = 0, 0, 0, 0
	checkSnapshot(t, x, s)
	checkLoads(t, x, s.Loads...)
	for _, e := range s.Digests {
		checkDigest(t, x, e.Digest, e, true)
	}
	for _, e := range s.Tags {
		checkTag(t, x, e.Name, e, true)
	}
	checkCount(t, x, 2, 25, 2)
	checkNames(t, x, dig(1), dig(2))
	checkList(t, x, "", 9, nth(1), nth(2))
	newPair(t, full()).all()
	for _, n := range sortsOfNumbers() {
		x := New(api.Snapshot{Number: n, Seg: n, Off: n, Seq: uint64(n)})
		checkSnapshot(t, x, api.Snapshot{})
	}
}

// P22.1: the lists of a snapshot may be in any order, and of several elements for the same one the last counts.
func TestListsInAnyOrder(t *testing.T) {
	want := full()
	want.Number, want.Seg, want.Off, want.Seq = 0, 0, 0, 0
	for _, digests := range orders(full().Digests) {
		for _, names := range orders(full().Tags) {
			for _, loads := range orders(full().Loads) {
				p := newPair(t, api.Snapshot{Digests: digests, Tags: names, Loads: loads})
				p.row()
				checkSnapshot(t, p.state, want)
				more := api.Snapshot{
					Digests: append([]api.Entry{putEntry(blob(dig(3), 77, 9), 9), putEntry(deletion(dig(1), 1), 2)}, digests...),
					Tags:    append([]api.TagEntry{tagEntry(tag(nth(4), dig(9), 9), 9), tagEntry(untag(nth(1), 2), 2)}, names...),
					Loads:   append([]api.Load{{Seg: 5, All: 9999, Live: 9}, {Seg: 1, All: 1}}, loads...),
				}
				checkSnapshot(t, New(more), want)
			}
		}
	}
	x := New(api.Snapshot{
		Digests: append(full().Digests, putEntry(deletion(dig(1), 1), 2)),
		Tags:    append(full().Tags, tagEntry(untag(nth(1), 2), 2)),
		Loads:   append(full().Loads, api.Load{Seg: 1, All: 8}, api.Load{Seg: 5}),
	})
	checkDigest(t, x, dig(1), putEntry(deletion(dig(1), 1), 2), true)
	checkTag(t, x, nth(1), tagEntry(untag(nth(1), 2), 2), true)
	checkLoads(t, x, api.Load{Seg: 1, All: 8, Live: 53}, api.Load{Seg: 2, All: 300}, api.Load{Seg: 3, All: 250, Live: 206}, api.Load{Seg: 5})
	checkCount(t, x, 1, 20, 1)
}

// P22.1, P22.2: loads of a snapshot, whatever numbers they have; what they say is live does not count.
func TestLoadsOfSnapshots(t *testing.T) {
	for _, seg := range sortsOfNumbers() {
		for _, all := range sortsOfNumbers() {
			for _, live := range sortsOfNumbers() {
				p := newPair(t, api.Snapshot{Loads: []api.Load{{Seg: seg, All: all, Live: live}}})
				p.all()
				checkLoads(t, p.state, api.Load{Seg: seg, All: all})
			}
			p := newPair(t, api.Snapshot{Loads: []api.Load{{Seg: seg, All: 5}, {Seg: 62, All: 6}, {Seg: seg, All: all}}, Digests: []api.Entry{putEntry(blob(dig(1), 5, seg), seg)}})
			p.all()
			p.apply(image(dig(2), 9, seg))
			p.apply(tag("v", dig(2), 62))
			p.all()
		}
	}
}

// P22.1, P22.2: each field of an entry is what came in, whatever it is.
func TestFieldsOfEntries(t *testing.T) {
	for _, kind := range append(otherKinds(), kinds()...) {
		for _, n := range []int{0, -1, 62, math.MaxInt} {
			for _, in := range [][]int{nil, {n}, {5, n, 5}} {
				e := api.Entry{Digest: dig(1), Kind: kind, Size: n, Loc: loc(n, 3, 40), In: in}
				named := api.TagEntry{Name: "v", Digest: dig(2), Gone: kind%2 == 0, Loc: loc(n, 3, 50), In: in}
				p := newPair(t, api.Snapshot{Digests: []api.Entry{e}, Tags: []api.TagEntry{named}, Loads: []api.Load{{Seg: n, All: 100}}})
				checkDigest(t, p.state, dig(1), e, true)
				checkTag(t, p.state, "v", named, true)
				p.all()
				p.apply(deletion(dig(1), 5))
				p.all()
				p.apply(untag("v", 5))
				p.all()
			}
		}
	}
}

// P22.1: each kind, in a segment with a load and in one without, and each length: what counts for the load, and what becomes of the entries.
func TestKinds(t *testing.T) {
	for _, kind := range append(otherKinds(), kinds()...) {
		counts := slices.Contains(kinds(), kind)
		for _, size := range []int{0, 1, 73, 1 << 40, -5} {
			for _, w := range []api.Word{
				{Kind: kind, Seq: 9, Digest: dig(1), Name: "new", Size: 6, Loc: loc(1, 3, size)},
				{Kind: kind, Seq: 9, Digest: dig(9), Name: nth(2), Size: 6, Loc: loc(4, 3, size)},
			} {
				p := newPair(t, full())
				before := p.state.Loads()
				p.apply(w)
				p.all()
				var want []api.Load
				for _, load := range before {
					if counts && load.Seg == w.Loc.Seg {
						load.All += size
					}
					want = append(want, load)
				}
				if counts && w.Loc.Seg == 4 {
					want = slices.Insert(want, 3, api.Load{Seg: 4, All: size})
				}
				for i, load := range p.state.Loads() {
					if len(want) != len(p.state.Loads()) || load.Seg != want[i].Seg || load.All != want[i].All {
						t.Fatalf("behind a record of kind %d of %d bytes, Loads = %v, want %v", kind, size, p.state.Loads(), want)
					}
				}
				if !counts {
					s := full()
					s.Number, s.Seg, s.Off, s.Seq = 0, 0, 0, 0
					checkSnapshot(t, p.state, s)
				}
				p.apply(w)
				p.all()
			}
		}
	}
}

// P22.1: records of each kind, one behind the other: of a digest the index has them, of a name the tags.
func TestRecords(t *testing.T) {
	x := New(api.Snapshot{})
	for _, w := range []api.Word{blob(dig(1), 5, 1), image(dig(2), 20, 1), tag("v", dig(2), 1), tag("w", dig(1), 2), commit(2)} {
		x.Apply(w)
	}
	want := api.Snapshot{
		Digests: []api.Entry{putEntry(blob(dig(1), 5, 1), 1), putEntry(image(dig(2), 20, 1), 1)},
		Tags:    []api.TagEntry{tagEntry(tag("v", dig(2), 1), 1), tagEntry(tag("w", dig(1), 2), 2)},
		Loads:   []api.Load{{Seg: 1, All: 58 + 73 + 55, Live: 58 + 73 + 55}, {Seg: 2, All: 55, Live: 55}},
	}
	checkSnapshot(t, x, want)
	x.Apply(deletion(dig(1), 2))
	x.Apply(untag("v", 3))
	x.Apply(commit(3))
	want.Digests[0] = putEntry(deletion(dig(1), 2), 1)
	want.Tags[0] = tagEntry(untag("v", 3), 1)
	want.Loads = []api.Load{{Seg: 1, All: 186, Live: 73}, {Seg: 2, All: 108, Live: 108}, {Seg: 3, All: 23, Live: 23}}
	checkSnapshot(t, x, want)
	checkCount(t, x, 1, 20, 1)
}

// P22.1: the delete of an unknown digest and the untag of an unknown name count for the load and for nothing else.
func TestUnknown(t *testing.T) {
	for _, seg := range []int{1, 2, 9, 0, -4} {
		p := newPair(t, api.Snapshot{})
		p.apply(deletion(dig(1), seg))
		p.all()
		checkSnapshot(t, p.state, api.Snapshot{Loads: []api.Load{{Seg: seg, All: 53}}})
		p.apply(untag("v", seg))
		p.all()
		checkSnapshot(t, p.state, api.Snapshot{Loads: []api.Load{{Seg: seg, All: 76}}})
		p.apply(deletion(dig(1), 3))
		checkSnapshot(t, p.state, api.Snapshot{Loads: p.model.loads()})
		p.apply(blob(dig(1), 5, seg))
		p.all()
		checkDigest(t, p.state, dig(1), putEntry(blob(dig(1), 5, seg), seg), true)
		checkTag(t, p.state, "v", api.TagEntry{}, false)
		// What Keep has removed is unknown again.
		p.keep()
		p.apply(deletion(dig(1), seg))
		checkSnapshot(t, p.state, api.Snapshot{Loads: []api.Load{{Seg: seg, All: 53}}})
		p.all()
	}
}

// P22.1: which loads Keep of no segment, of some, of all and of others leaves, and which entries.
func TestKeep(t *testing.T) {
	for _, c := range []struct{ segs, want []int }{
		{nil, nil},
		{[]int{}, nil},
		{[]int{4}, nil},
		{[]int{0, -1, 4, 99, 257, 1<<32 + 1}, nil},
		{[]int{1}, []int{1}},
		{[]int{5}, []int{5}},
		{[]int{3, 1}, []int{1, 3}},
		{[]int{3, 1, 3, 1, 1}, []int{1, 3}},
		{[]int{5, 4, 2}, []int{2, 5}},
		{[]int{1, 2, 3}, []int{1, 2, 3}},
		{[]int{1, 2, 3, 5}, []int{1, 2, 3, 5}},
		{[]int{9, 5, 3, 0, 2, 2, 1, -5, 3}, []int{1, 2, 3, 5}},
	} {
		p := newPair(t, full())
		for range 2 {
			p.keep(c.segs...)
			p.all()
			loads := p.state.Loads()
			if len(loads) != len(c.want) {
				t.Fatalf("behind Keep of %v, Loads = %v", c.segs, loads)
			}
			for i, load := range loads {
				was := full().Loads
				at := slices.IndexFunc(was, func(l api.Load) bool { return l.Seg == c.want[i] })
				if load.Seg != c.want[i] || load.All != was[at].All {
					t.Fatalf("behind Keep of %v, Loads = %v", c.segs, loads)
				}
			}
		}
	}
	x := New(full())
	x.Keep([]int{2, 1})
	checkSnapshot(t, x, api.Snapshot{
		Digests: []api.Entry{full().Digests[0], {Digest: dig(2), Kind: api.RecDelete, In: []int{2}}, {Digest: dig(3), Kind: api.RecDelete, In: []int{1, 2}}, full().Digests[3]},
		Tags:    []api.TagEntry{full().Tags[0], {Name: nth(2), Gone: true, In: []int{2}}, {Name: nth(3), Gone: true, In: []int{1, 2}}, full().Tags[3]},
		Loads:   []api.Load{{Seg: 1, All: 900, Live: 114}, {Seg: 2, All: 300}},
	})
	x.Keep([]int{3})
	checkSnapshot(t, x, api.Snapshot{})
}

// P22.1: the rows of segments that entries have and that are kept, of all sorts.
func TestKeepOfRows(t *testing.T) {
	for _, in := range sortsOfRows() {
		for _, segs := range sortsOfRows() {
			for _, seg := range []int{0, 1, 3, -1, math.MaxInt} {
				s := api.Snapshot{
					Digests: []api.Entry{putEntry(blob(dig(1), 5, seg), in...), putEntry(deletion(dig(2), seg), in...)},
					Tags:    []api.TagEntry{tagEntry(tag("v", dig(1), seg), in...), tagEntry(untag("w", seg), in...)},
				}
				for i, n := range in {
					s.Loads = append(s.Loads, api.Load{Seg: n, All: i})
				}
				p := newPair(t, s)
				p.row()
				p.keep(segs...)
				p.row()
				p.heres()
				p.keep(append(slices.Clone(segs), in...)...)
				p.row()
			}
		}
	}
}

// P22.1, P22.2: each subset of the segments, then each subset of those, with a record in between or without one.
func TestKeepSubsets(t *testing.T) {
	for _, more := range subsets(1, 2, 3, 4, 5) {
		for _, fewer := range subsets(more...) {
			p := newPair(t, full())
			p.keep(more...)
			p.keep(fewer...)
			p.all()
			once := newPair(t, full())
			once.keep(fewer...)
			checkSnapshot(t, p.state, once.state.Snapshot())
			p = newPair(t, full())
			p.keep(more...)
			p.apply(blob(dig(2), 8, 4))
			p.apply(untag(nth(2), 1))
			p.row()
			p.keep(fewer...)
			p.all()
		}
	}
}

// P22.1: the load of a segment that Keep has removed begins anew, that of one that was kept goes on.
func TestRecordsBehindKeep(t *testing.T) {
	x := New(api.Snapshot{})
	x.Apply(blob(dig(1), 5, 1))
	x.Apply(blob(dig(2), 6, 2))
	x.Keep([]int{2})
	checkLoads(t, x, api.Load{Seg: 2, All: 59, Live: 59})
	x.Apply(commit(1))
	checkLoads(t, x, api.Load{Seg: 2, All: 59, Live: 59})
	x.Apply(blob(dig(3), 7, 1))
	x.Apply(blob(dig(4), 7, 2))
	checkLoads(t, x, api.Load{Seg: 1, All: 60, Live: 60}, api.Load{Seg: 2, All: 119, Live: 119})
	for _, segs := range subsets(1, 2, 3) {
		for seg := 1; seg < 5; seg++ {
			for i := range 6 {
				for _, w := range []api.Word{blob(dig(i), 9, seg), deletion(dig(i), seg), tag(nth(i), dig(i), seg), untag(nth(i), seg), commit(seg)} {
					p := newPair(t, full())
					p.keep(segs...)
					p.apply(w)
					p.all()
					p.keep(seg)
					p.row()
					p.apply(w)
					p.row()
				}
			}
		}
	}
}

// P22.1: a digest and a name that are there, deleted or gone, lost, unknown, and removed by Keep.
func TestDigestAndTag(t *testing.T) {
	x := New(full())
	checkDigest(t, x, dig(2), putEntry(image(dig(2), 20, 3), 2, 3), true)
	checkDigest(t, x, dig(3), putEntry(deletion(dig(3), 3), 1, 2), true)
	checkDigest(t, x, dig(4), api.Entry{Digest: dig(4), Kind: api.RecDelete, In: []int{2}}, true)
	checkDigest(t, x, dig(5), api.Entry{}, false)
	checkDigest(t, x, api.Digest{}, api.Entry{}, false)
	checkTag(t, x, nth(2), tagEntry(tag(nth(2), dig(2), 3), 2, 3), true)
	checkTag(t, x, nth(3), tagEntry(untag(nth(3), 3), 1, 2), true)
	checkTag(t, x, nth(4), api.TagEntry{Name: nth(4), Gone: true, In: []int{1}}, true)
	checkTag(t, x, nth(5), api.TagEntry{}, false)
	checkTag(t, x, "", api.TagEntry{}, false)
	x.Keep([]int{2})
	checkDigest(t, x, dig(1), api.Entry{}, false)
	checkDigest(t, x, dig(2), api.Entry{Digest: dig(2), Kind: api.RecDelete, In: []int{2}}, true)
	checkTag(t, x, nth(1), api.TagEntry{}, false)
	checkTag(t, x, nth(4), api.TagEntry{}, false)
	checkTag(t, x, nth(2), api.TagEntry{Name: nth(2), Gone: true, In: []int{2}}, true)
}

// P22.1: List and Names, of names that are there, gone and unknown, for fewer than there are, for as many and for more.
func TestListAndNames(t *testing.T) {
	x := New(api.Snapshot{})
	for i, name := range []string{"d", "b", "f", "e", "a"} {
		x.Apply(tag(name, dig(i), 1))
	}
	x.Apply(untag("e", 1))
	x.Apply(tag("f", dig(1), 2))
	checkNames(t, x, dig(4), dig(1), dig(0), dig(1))
	for _, c := range []struct {
		after string
		want  []string
	}{
		{"", []string{"a", "b", "d", "f"}}, {"Z", []string{"a", "b", "d", "f"}}, {"a", []string{"b", "d", "f"}}, {"a\xff", []string{"b", "d", "f"}},
		{"c", []string{"d", "f"}}, {"d", []string{"f"}}, {"e", []string{"f"}}, {"f", nil}, {"g", nil}, {"\xff", nil},
	} {
		for n := -2; n < 7; n++ {
			checkList(t, x, c.after, n, c.want[:max(0, min(n, len(c.want)))]...)
		}
		checkList(t, x, c.after, math.MaxInt, c.want...)
		checkList(t, x, c.after, math.MinInt)
	}
	x.Keep([]int{2})
	checkNames(t, x, dig(1))
	checkList(t, x, "", 9, "f")
}

// P22.1: Count behind each of the calls.
func TestCount(t *testing.T) {
	x := New(api.Snapshot{})
	for i, c := range []struct {
		do                   func()
		digests, size, names int
	}{
		{func() {}, 0, 0, 0},
		{func() { x.Apply(blob(dig(1), 5, 1)) }, 1, 5, 0},
		{func() { x.Apply(tag("v", dig(1), 1)) }, 1, 5, 1},
		{func() { x.Apply(image(dig(2), 20, 2)) }, 2, 25, 1},
		{func() { x.Apply(image(dig(2), 30, 3)) }, 2, 35, 1},
		{func() { x.Apply(blob(dig(3), 0, 3)) }, 3, 35, 1},
		{func() { x.Apply(tag("w", dig(1), 3)); x.Apply(tag("w", dig(2), 3)) }, 3, 35, 2},
		{func() { x.Apply(commit(3)); x.Apply(deletion(dig(9), 3)); x.Apply(untag("u", 3)) }, 3, 35, 2},
		{func() { x.Apply(deletion(dig(2), 3)) }, 2, 5, 2},
		{func() { x.Apply(deletion(dig(2), 3)) }, 2, 5, 2},
		{func() { x.Apply(untag("v", 3)) }, 2, 5, 1},
		{func() { x.Apply(tag("v", dig(7), 4)) }, 2, 5, 2},
		{func() {
			x.Here(1)
			x.Loads()
			x.Snapshot()
			x.Digest(dig(1))
			x.Tag("v")
			x.List("", 9)
			x.Names()
		}, 2, 5, 2},
		{func() { x.Keep([]int{1, 2, 3, 4}) }, 2, 5, 2},
		{func() { x = New(x.Snapshot()) }, 2, 5, 2},
		{func() { x.Keep([]int{3, 4}) }, 1, 0, 2},
		{func() { x.Keep([]int{4}) }, 0, 0, 1},
		{func() { x.Keep(nil) }, 0, 0, 0},
		{func() { x = New(full()) }, 2, 25, 2},
	} {
		c.do()
		checkCount(t, x, c.digests, c.size, c.names)
		if t.Failed() {
			t.Fatalf("at %d", i)
		}
	}
}

// P22.2: of a segment with no record, with records of which none, some and all are live, and of segments for which there is no load.
func TestHere(t *testing.T) {
	x := New(full())
	checkHere(t, x, 1, told(blob(dig(1), 5, 1)), told(tag(nth(1), dig(1), 1)))
	checkHere(t, x, 2)
	checkHere(t, x, 3, told(untag(nth(3), 3)), told(deletion(dig(3), 3)), told(image(dig(2), 20, 3)), told(tag(nth(2), dig(2), 3)))
	checkHere(t, x, 5)
	checkHere(t, x, 9)
	x.Keep([]int{3})
	checkHere(t, x, 3, told(image(dig(2), 20, 3)), told(tag(nth(2), dig(2), 3)))
	s := full()
	s.Loads = nil
	x = New(s)
	checkHere(t, x, 1, told(blob(dig(1), 5, 1)), told(tag(nth(1), dig(1), 1)))
	checkLoads(t, x)
}

// P22.2: a delete and an untag are live as long as what they remove is in another segment.
func TestHereOfDeletes(t *testing.T) {
	for _, c := range []struct {
		in   []int
		live bool
	}{{nil, false}, {[]int{3}, false}, {[]int{3, 3}, false}, {[]int{2}, true}, {[]int{3, 4}, true}, {[]int{-3}, true}, {[]int{0}, true}} {
		p := newPair(t, api.Snapshot{Digests: []api.Entry{putEntry(deletion(dig(1), 3), c.in...)}, Tags: []api.TagEntry{tagEntry(untag("v", 3), c.in...)}, Loads: []api.Load{{Seg: 3, All: 500}}})
		p.all()
		if c.live {
			checkHere(t, p.state, 3, told(untag("v", 3)), told(deletion(dig(1), 3)))
			checkLoads(t, p.state, api.Load{Seg: 3, All: 500, Live: 76})
		} else {
			checkHere(t, p.state, 3)
			checkLoads(t, p.state, api.Load{Seg: 3, All: 500})
		}
	}
	for _, w := range []api.Word{blob(dig(1), 5, 3), image(dig(1), 5, 3)} {
		x := New(api.Snapshot{Digests: []api.Entry{putEntry(w)}, Tags: []api.TagEntry{tagEntry(tag("v", dig(1), 3))}})
		checkHere(t, x, 3, told(w), told(tag("v", dig(1), 3)))
	}
}

// P22.2: records are told in the order of their places, whatever these are; at the same one, digests ahead of names, each in their order.
func TestOrderOfHere(t *testing.T) {
	words := []api.Word{
		at(blob(dig(2), 5, 1), 37), at(image(dig(9), 0, 1), 37), at(tag("a", dig(1), 1), 37), at(tag("b", dig(9), 1), 37),
		at(tag("", dig(1), 1), 38), at(blob(dig(1), 5, 1), 40), at(image(api.Digest{}, 4, 1), 128), at(tag("B", dig(3), 1), 128), at(tag("aa", dig(0), 1), 128),
		at(tag("c", dig(1), 1), 500), at(blob(dig(3), 6, 1), 1<<20),
	}
	ends := []api.Word{at(blob(dig(300), 1, 1), math.MinInt), at(tag("z", dig(1), 1), math.MinInt), at(blob(dig(200), 1, 1), -1), at(tag("A", dig(1), 1), 0)}
	last := []api.Word{at(blob(dig(301), 1, 1), math.MaxInt), at(tag("y", dig(1), 1), math.MaxInt)}
	all := slices.Concat(ends, words, last)
	want := make([]api.Word, len(all))
	for i, w := range all {
		want[i] = told(w)
	}
	for _, order := range orders(all) {
		p := newPair(t, api.Snapshot{})
		for i, w := range order {
			p.apply(w)
			p.apply(blob(dig(1000+i), 3, 2))
		}
		p.all()
		checkHere(t, p.state, 1, want...)
	}
	x := New(api.Snapshot{})
	for _, w := range []api.Word{blob(dig(2), 5, 1), blob(dig(1), 5, 1), tag("b", dig(1), 1), tag("a", dig(1), 1), deletion(dig(2), 3), deletion(dig(1), 3), untag("b", 3), untag("a", 3)} {
		x.Apply(at(w, 77))
	}
	checkHere(t, x, 3, told(at(deletion(dig(1), 3), 77)), told(at(deletion(dig(2), 3), 77)), told(at(untag("a", 3), 77)), told(at(untag("b", 3), 77)))
}

// P22.2: segments with any number, and what is said of one is nothing of another.
func TestSegmentsOfHere(t *testing.T) {
	segs := []int{0, 1, -1, 257, 1<<32 + 1, api.MaxNumber, math.MinInt, math.MaxInt}
	p := newPair(t, api.Snapshot{})
	for i, seg := range segs {
		p.apply(blob(mixed(i), i, seg))
		p.apply(tag(nth(i), mixed(i), seg))
	}
	p.all()
	for i, seg := range segs {
		checkHere(t, p.state, seg, told(blob(mixed(i), i, seg)), told(tag(nth(i), mixed(i), seg)))
	}
	for i, seg := range segs {
		p.apply(deletion(mixed(i), seg))
		p.apply(untag(nth(i), segs[(i+1)%len(segs)]))
		p.all()
	}
	for i, seg := range segs {
		checkHere(t, p.state, seg, told(untag(nth((i+len(segs)-1)%len(segs)), seg)))
	}
}

// P22.2: a record that was lost is told with the place that its entry has, which is a zero one.
func TestHereOfLost(t *testing.T) {
	p := newPair(t, api.Snapshot{})
	for _, w := range []api.Word{blob(dig(1), 5, 1), tag("v", dig(1), 1), image(dig(1), 6, 2), tag("v", dig(1), 2)} {
		p.apply(w)
	}
	p.keep(1)
	p.all()
	checkHere(t, p.state, 1)
	checkHere(t, p.state, 2)
	checkHere(t, p.state, 0, api.Word{Kind: api.RecDelete, Digest: dig(1)}, api.Word{Kind: api.RecUntag, Name: "v"})
	checkLoads(t, p.state, api.Load{Seg: 1, All: 113})
	p.apply(commit(0))
	p.apply(blob(dig(2), 5, 0))
	checkHere(t, p.state, 0, api.Word{Kind: api.RecDelete, Digest: dig(1)}, api.Word{Kind: api.RecUntag, Name: "v"}, told(blob(dig(2), 5, 0)))
	checkLoads(t, p.state, api.Load{Seg: 0, All: 58, Live: 58}, api.Load{Seg: 1, All: 113})
	p.all()
}

// P22.2: what of an entry is told: of a digest no name, of a name no size, of none a number.
func TestFieldsOfHere(t *testing.T) {
	w := api.Word{Kind: api.RecBlob, Seq: 41, Digest: dig(7), Name: "v", Size: 51, Loc: loc(61, 62, 63)}
	named := api.Word{Kind: api.RecTag, Seq: 43, Digest: dig(8), Name: "w", Size: 52, Loc: loc(61, 65, 66)}
	x := New(api.Snapshot{})
	x.Apply(w)
	x.Apply(named)
	w.Seq, w.Name, named.Seq, named.Size = 0, "", 0, 0
	checkHere(t, x, 61, w, named)
	w.Kind = api.RecManifest
	x.Apply(w)
	checkHere(t, x, 61, w, named)
	gone := api.Word{Kind: api.RecDelete, Seq: 44, Digest: dig(7), Name: "w", Size: 9, Loc: loc(60, 3, 4)}
	left := api.Word{Kind: api.RecUntag, Seq: 45, Digest: dig(7), Name: "w", Size: 9, Loc: loc(60, 5, 6)}
	x.Apply(gone)
	x.Apply(left)
	checkHere(t, x, 61)
	checkHere(t, x, 60, api.Word{Kind: api.RecDelete, Digest: dig(7), Loc: loc(60, 3, 4)}, api.Word{Kind: api.RecUntag, Name: "w", Loc: loc(60, 5, 6)})
}

// P22.2: Loads of no segment, of one and of many, ascending; live bytes are none, some and all of them.
func TestLoads(t *testing.T) {
	x := New(api.Snapshot{})
	checkLoads(t, x)
	x.Apply(commit(1))
	checkLoads(t, x)
	x.Apply(api.Word{Kind: api.RecDelete, Digest: dig(1), Loc: loc(3, 4, 0)})
	checkLoads(t, x, api.Load{Seg: 3})
	x.Apply(blob(dig(1), 5, 9))
	x.Apply(blob(dig(2), 6, 2))
	x.Apply(blob(dig(3), 7, 2))
	checkLoads(t, x, api.Load{Seg: 2, All: 119, Live: 119}, api.Load{Seg: 3}, api.Load{Seg: 9, All: 58, Live: 58})
	x.Apply(deletion(dig(1), -4))
	x.Apply(deletion(dig(2), 2))
	checkLoads(t, x, api.Load{Seg: -4, All: 53, Live: 53}, api.Load{Seg: 2, All: 172, Live: 60}, api.Load{Seg: 3}, api.Load{Seg: 9, All: 58})
	x.Apply(tag("v", dig(3), 9))
	x.Apply(tag("v", dig(3), 9))
	checkLoads(t, x, api.Load{Seg: -4, All: 53, Live: 53}, api.Load{Seg: 2, All: 172, Live: 60}, api.Load{Seg: 3}, api.Load{Seg: 9, All: 168, Live: 55})
	p := newPair(t, api.Snapshot{})
	for i := range 300 {
		p.apply(blob(mixed(i), i%7, i*7919%101))
	}
	p.all()
	for i, load := range p.state.Loads() {
		if load.Seg != i || load.Live != load.All || load.All == 0 {
			t.Fatalf("Loads = %v", p.state.Loads())
		}
	}
}

// P22.2: a state made from a Snapshot answers all calls as the one from which that came.
func TestFromSnapshot(t *testing.T) {
	random := rand.New(rand.NewPCG(22, 1))
	for size := range 40 {
		p := newPair(t, api.Snapshot{})
		for range 3 * size {
			p.drawn(random, size, 6)
		}
		q := p.twin()
		for range 40 {
			seed := random.Uint64()
			p.drawn(rand.New(rand.NewPCG(22, seed)), size+2, 6)
			q.drawn(rand.New(rand.NewPCG(22, seed)), size+2, 6)
			checkSnapshot(t, q.state, p.state.Snapshot())
		}
		p.all()
		q.all()
	}
}

// drawnWord answers a drawn record of one of about so many digests and names and of so many segments.
func drawnWord(random *rand.Rand, most, segs int) api.Word {
	i := random.IntN(most + 1)
	w := api.Word{Seq: random.Uint64(), Digest: mixed(i), Name: nth(i), Size: random.IntN(99), Loc: loc(random.IntN(segs), random.IntN(9), random.IntN(99))}
	switch draw := random.IntN(22); {
	case draw < 20:
		w.Kind = []int{1, 1, 2, 3, 3, 4, 5}[random.IntN(7)]
	default:
		w.Kind = otherKinds()[random.IntN(len(otherKinds()))]
	}
	return w
}

// drawn makes a drawn call on one of about so many digests and names and of so many segments.
func (p *pair) drawn(random *rand.Rand, most, segs int) {
	p.t.Helper()
	switch draw := random.IntN(30); {
	case draw < 22:
		p.apply(drawnWord(random, most, segs))
	case draw < 24:
		p.digest(mixed(random.IntN(most + 2)))
		p.tag(nth(random.IntN(most + 2)))
	case draw < 27:
		p.here(random.IntN(segs + 1))
	case draw < 28:
		after, n := nth(random.IntN(most+1)), random.IntN(most+2)-1
		checkList(p.t, p.state, after, n, p.model.list(after, n)...)
	default:
		var l []int
		for seg := range segs {
			if random.IntN(6) > 0 {
				l = append(l, seg)
			}
		}
		random.Shuffle(len(l), func(i, j int) { l[i], l[j] = l[j], l[i] })
		p.keep(l...)
	}
}

// P22.1, P22.2: long drawn rows of calls on states of few entries and of many.
func TestLongRowsOfCalls(t *testing.T) {
	random := rand.New(rand.NewPCG(22, 61))
	for range 60 {
		most, segs := 1+random.IntN(1<<random.IntN(8)), 1+random.IntN(1<<random.IntN(6))
		p := newPair(t, api.Snapshot{})
		for n := range 400 {
			p.drawn(random, most, segs)
			if n%60 == 0 {
				p.row()
			}
			if n%150 == 149 {
				p = p.twin()
			}
		}
		p.all()
	}
}

// P22.1, P22.2: all rows of up to four of fourteen calls, on a digest, a name and two segments.
func TestShortRowsOfCalls(t *testing.T) {
	var calls []func(p *pair)
	for seg := 1; seg <= 2; seg++ {
		for _, w := range []api.Word{blob(dig(1), seg, seg), deletion(dig(1), seg), tag("v", dig(1), seg), untag("v", seg), image(dig(2), 9, seg), commit(seg)} {
			calls = append(calls, func(p *pair) { p.apply(w) })
		}
		calls = append(calls, func(p *pair) { p.keep(seg) })
	}
	for size := range 5 {
		for _, row := range rowsOf(size, len(calls)) {
			p := newPair(t, api.Snapshot{})
			for _, i := range row {
				calls[i](p)
			}
			p.row()
			p.here(1)
			p.here(2)
			p.digest(dig(1))
			p.tag("v")
		}
	}
}

// P22.1, P22.2: thousands of digests and names; they are written, written again, deleted, and go with their segments.
func TestThousands(t *testing.T) {
	const size = 3000
	x, m := New(api.Snapshot{}), modelOf(api.Snapshot{})
	do := func(w api.Word) {
		x.Apply(w)
		m.apply(w)
	}
	check := func() {
		t.Helper()
		checkSnapshot(t, x, m.snapshot())
		for seg := range 12 {
			checkHere(t, x, seg, m.here(seg)...)
		}
		n, bytes, names := m.count()
		checkCount(t, x, n, bytes, names)
	}
	for i := range size {
		seg := 1 + i*8/size
		do(at(blob(mixed(i), i, seg), i))
		do(at(tag(nth(i), mixed(i), seg), i/2))
		if i%3 == 0 {
			do(at(deletion(mixed(i/2), 9), i/5))
			do(at(untag(nth(i/4), 10), i/5))
		}
		do(commit(seg))
	}
	check()
	for _, segs := range [][]int{{1, 2, 3, 4, 5, 6, 7, 8, 9, 10}, {2, 4, 6, 8, 9, 10}, {10, 8, 8, 4}, {8}, {9}} {
		x.Keep(segs)
		m.keep(segs)
		check()
	}
}

// P22.1, P22.2: numbers such as no record has are taken as they are.
func TestWrongNumbers(t *testing.T) {
	for _, n := range sortsOfNumbers() {
		for _, m := range sortsOfNumbers() {
			p := newPair(t, full())
			for _, w := range []api.Word{
				{Kind: api.RecBlob, Seq: math.MaxUint64, Digest: dig(1), Name: "V 1", Size: n, Loc: loc(m, n, m)},
				{Kind: api.RecManifest, Digest: dig(8), Size: m, Loc: loc(m, m, n)},
				{Kind: api.RecTag, Name: "\xff \x00", Digest: dig(8), Size: m, Loc: loc(n, m, n)},
				{Kind: api.RecUntag, Name: nth(1), Digest: dig(8), Size: m, Loc: loc(n, n, m)},
				{Kind: api.RecDelete, Digest: dig(2), Name: "", Size: n, Loc: loc(n, m, m)},
			} {
				p.apply(w)
				p.all()
			}
			p.keep(n, 1)
			p.all()
			p.keep(m)
			p.all()
		}
	}
}

// P22.1, P22.2: a state of zero entries, loads and records.
func TestZeros(t *testing.T) {
	p := newPair(t, api.Snapshot{Digests: []api.Entry{{}}, Tags: []api.TagEntry{{}}, Loads: []api.Load{{}}})
	p.all()
	checkHere(t, p.state, 0, api.Word{}, api.Word{Kind: api.RecTag})
	p.apply(api.Word{})
	p.all()
	for _, kind := range kinds() {
		p.apply(api.Word{Kind: kind})
		p.all()
	}
	p.keep(0)
	p.all()
	p.keep()
	p.all()
	checkSnapshot(t, p.state, api.Snapshot{})
}

// P22.1: the index provides methods of the state: what they answer is what the state has.
func TestIndexOfState(t *testing.T) {
	x := New(full())
	x.Apply(blob(dig(9), 5, 4))
	x.Keep([]int{1, 3, 4})
	if got := x.Row(); !slices.EqualFunc(got, x.Snapshot().Digests, same) || len(got) != 4 {
		t.Errorf("Row = %v", got)
	}
	for i := range 10 {
		want, known := x.Digest(dig(i))
		if e, ok := x.Get(dig(i)); ok != known || !same(e, want) {
			t.Errorf("Get = %v, %v, want %v, %v", e, ok, want, known)
		}
	}
}

// P22.3: the methods of a nil state do nothing and answer zero values.
func TestNil(t *testing.T) {
	var x *State
	check := func() {
		t.Helper()
		for i := range 3 {
			checkDigest(t, x, dig(i), api.Entry{}, false)
			for _, n := range sortsOfNumbers() {
				checkList(t, x, []string{"", "a", "\xff"}[i], n)
			}
		}
		for _, name := range []string{"", "a", "\xff"} {
			checkTag(t, x, name, api.TagEntry{}, false)
		}
		for _, seg := range sortsOfNumbers() {
			checkHere(t, x, seg)
		}
		checkDigest(t, x, api.Digest{}, api.Entry{}, false)
		checkLoads(t, x)
		checkNames(t, x)
		checkCount(t, x, 0, 0, 0)
		checkSnapshot(t, x, api.Snapshot{})
		if x != nil {
			t.Fatal("it is a state now")
		}
	}
	check()
	for _, kind := range append(otherKinds(), kinds()...) {
		for _, name := range []string{"", "a", "\xff"} {
			x.Apply(api.Word{Kind: kind, Digest: dig(1), Name: name, Loc: loc(1, 2, 3)})
			check()
		}
	}
	for _, segs := range sortsOfRows() {
		given, stays := withRoom(segs)
		x.Keep(given)
		stays(t, "Keep")
		check()
	}
}

// existing answers a state's present digests, with all that their entries say, and its existing names.
func existing(x *State) api.Snapshot {
	s := x.Snapshot()
	s.Loads = nil
	s.Digests = slices.DeleteFunc(s.Digests, func(e api.Entry) bool { return e.Kind == api.RecDelete })
	s.Tags = slices.DeleteFunc(s.Tags, func(e api.TagEntry) bool { return e.Gone })
	return s
}

// values answers what a state has for each digest that is present and each name that exists, wherever its record is.
func values(x *State) api.Snapshot {
	s := existing(x)
	for i := range s.Digests {
		s.Digests[i].Loc, s.Digests[i].In = api.Loc{}, nil
	}
	for i := range s.Tags {
		s.Tags[i].Loc, s.Tags[i].In = api.Loc{}, nil
	}
	return s
}

// behind answers the state after records.
func behind(words []api.Word) *State {
	x := New(api.Snapshot{})
	for _, w := range words {
		x.Apply(w)
	}
	return x
}

// P22.4: checkRemoval keeps, for each of the segments without live records, all others: what exists then is what exists after the records that are not in it, and what existed before.
func checkRemoval(t *testing.T, words []api.Word, segs ...int) {
	t.Helper()
	for _, seg := range segs {
		x := behind(words)
		if len(x.Here(seg)) > 0 {
			continue
		}
		was := values(x)
		x.Keep(others(segs, seg))
		rest := behind(slices.DeleteFunc(slices.Clone(words), func(w api.Word) bool { return w.Loc.Seg == seg }))
		if !sameSnapshot(existing(x), existing(rest)) || !sameSnapshot(values(x), was) {
			t.Fatalf("without segment %d: %v and %v, want %v, behind %v", seg, existing(x), was, existing(rest), words)
		}
		if got := x.Here(seg); len(got) > 0 {
			t.Fatalf("Here of %d = %v", seg, got)
		}
	}
}

// P22.4: checkCopy applies what Here answers for each of the segments again, in segment to: each digest and each name is as before, and nothing in the segment is live.
func checkCopy(t *testing.T, words []api.Word, to int, segs ...int) {
	t.Helper()
	for _, seg := range segs {
		x := behind(words)
		was := values(x)
		for i, w := range x.Here(seg) {
			w.Loc = loc(to, 1000+100*i, w.Loc.Len)
			x.Apply(w)
			if !sameSnapshot(values(x), was) {
				t.Fatalf("a copy of %v made %v of %v", w, values(x), was)
			}
		}
		checkHere(t, x, seg)
		x.Keep(others(append(segs, to), seg))
		if !sameSnapshot(values(x), was) {
			t.Fatalf("removing segment %d behind a copy made %v of %v", seg, values(x), was)
		}
	}
}

// P22.4: all rows of up to four of twelve records, of a digest, a name and three segments.
func TestConsequences(t *testing.T) {
	var all []api.Word
	for seg := 1; seg <= 3; seg++ {
		all = append(all, blob(dig(1), seg, seg), deletion(dig(1), seg), tag("v", dig(seg), seg), untag("v", seg))
	}
	for size := range 5 {
		for _, row := range rowsOf(size, len(all)) {
			var words []api.Word
			for _, i := range row {
				words = append(words, all[i])
			}
			checkRemoval(t, words, 1, 2, 3)
			checkCopy(t, words, 4, 1, 2, 3)
			if size < 4 {
				checkCopy(t, words, 3, 1, 2)
				checkCopy(t, words, 0, 1, 2, 3)
			}
		}
	}
}

// P22.4: long drawn rows of records, of few digests and names and of many.
func TestConsequencesOfLongRows(t *testing.T) {
	random := rand.New(rand.NewPCG(22, 44))
	for range 400 {
		most, segs := random.IntN(1+random.IntN(30)), 2+random.IntN(5)
		var words []api.Word
		for range random.IntN(200) {
			words = append(words, drawnWord(random, most, segs))
		}
		all := make([]int, segs)
		for seg := range all {
			all[seg] = seg
		}
		checkRemoval(t, words, all...)
		checkCopy(t, words, segs, all...)
		checkCopy(t, words, 0, all[1:]...)
	}
}

// P22.4: segments are cleaned one behind the other, with records in between, and no digest or name gets another value by that.
func TestCleaning(t *testing.T) {
	random := rand.New(rand.NewPCG(22, 9))
	for range 60 {
		x, whole := New(api.Snapshot{}), New(api.Snapshot{})
		var segs []int
		for seg := 1; seg < 20; seg++ {
			segs = append(segs, seg)
			for i := range 12 {
				w := drawnWord(random, 9, 1)
				w.Loc = loc(seg, i, 50)
				x.Apply(w)
				whole.Apply(w)
			}
			if seg%2 == 0 {
				old := segs[random.IntN(len(segs)-1)]
				for i, w := range x.Here(old) {
					w.Loc = loc(seg, 100+i, 50)
					x.Apply(w)
				}
				checkHere(t, x, old)
				segs = others(segs, old)
				x.Keep(segs)
			}
			if !sameSnapshot(values(x), values(whole)) {
				t.Fatalf("%v, want %v", values(x), values(whole))
			}
			for _, load := range x.Loads() {
				if !slices.Contains(segs, load.Seg) || load.Live > load.All {
					t.Fatalf("Loads = %v of the segments %v", x.Loads(), segs)
				}
			}
		}
	}
}

// R3: a state keeps no memory that came in: whatever becomes of it, the state stays.
func TestNothingIsKept(t *testing.T) {
	for _, in := range sortsOfRows() {
		s := full()
		s.Digests[0].In, s.Digests[2].In, s.Tags[0].In, s.Tags[2].In = slices.Clone(in), slices.Clone(in), slices.Clone(in), slices.Clone(in)
		p := newPair(t, full())
		p.state, p.model = New(s), modelOf(s)
		spoil(s)
		p.all()
		segs := append(slices.Clone(in), 3, 5)
		p.state.Keep(segs)
		p.model.keep(slices.Clone(segs))
		for i := range segs {
			segs[i] = -7
		}
		p.all()
		p.apply(tag(nth(1), dig(1), 4))
		p.all()
	}
}

// spoil overwrites all memory of a snapshot, that behind its rows of segments included.
func spoil(s api.Snapshot) {
	spoilRow := func(in []int) {
		_ = append(in, -5, -5)
		for i := range in {
			in[i] = -8
		}
	}
	for i := range s.Digests {
		spoilRow(s.Digests[i].In)
		s.Digests[i] = api.Entry{Digest: dig(999), Size: 9}
	}
	for i := range s.Tags {
		spoilRow(s.Tags[i].In)
		s.Tags[i] = api.TagEntry{Name: "spoilt"}
	}
	for i := range s.Loads {
		s.Loads[i] = api.Load{Seg: 998, All: 9, Live: 9}
	}
}

// R3: what the methods answer is new memory: whatever is done to it, the state and the other answers stay as they were.
func TestAnswersAreNew(t *testing.T) {
	for _, segs := range sortsOfRows() {
		p := newPair(t, full())
		for range 2 {
			for i := range 5 {
				e, _ := p.state.Digest(dig(i))
				n, _ := p.state.Tag(nth(i))
				spoil(api.Snapshot{Digests: []api.Entry{e}, Tags: []api.TagEntry{n}})
				clear(p.state.Here(i))
			}
			clear(p.state.Loads())
			clear(p.state.Names())
			clear(p.state.List("", 9))
			spoil(p.state.Snapshot())
			p.all()
			p.keep(append(slices.Clone(segs), 1, 3)...)
			p.apply(blob(dig(1), 9, 4))
			p.all()
		}
	}
}

// R3: no two rows of segments of one answer share memory, nor the lists of a snapshot with other answers.
func TestRowsOfOneAnswer(t *testing.T) {
	in := append(make([]int, 0, 9), 1, 3)
	x := New(api.Snapshot{
		Digests: []api.Entry{{Digest: dig(1), In: in}, {Digest: dig(2), In: in}, {Digest: dig(3), In: in[:1]}},
		Tags:    []api.TagEntry{{Name: "a", In: in}, {Name: "b", In: in}, {Name: "c", In: in[:1]}},
		Loads:   []api.Load{{Seg: 1, All: 2}},
	})
	rows := func(s api.Snapshot) [][]int {
		var out [][]int
		for _, e := range s.Digests {
			out = append(out, e.In)
		}
		for _, e := range s.Tags {
			out = append(out, e.In)
		}
		return out
	}
	for range 2 {
		for i := range 6 {
			loads := x.Loads()
			s := x.Snapshot()
			was := slices.Clone(rows(s)[i])
			for j, row := range rows(s) {
				if j != i {
					clear(row)
					_ = append(row, 8, 8)
				}
			}
			clear(s.Loads)
			if !slices.Equal(rows(s)[i], was) || !slices.Equal(x.Loads(), loads) {
				t.Fatalf("%v became %v", was, rows(s)[i])
			}
		}
		x.Keep([]int{3, 1, 0})
	}
}

// R3: what the methods answered stays as it was, whatever is called then.
func TestAnswersStay(t *testing.T) {
	p := newPair(t, full())
	var was []string
	var texts []func() string
	ask := func(call string) {
		snapshot, loads, names, list := p.state.Snapshot(), p.state.Loads(), p.state.Names(), p.state.List("", 100)
		var heres [][]api.Word
		var entries []api.Entry
		var tags []api.TagEntry
		for i := range 6 {
			e, _ := p.state.Digest(dig(i))
			n, _ := p.state.Tag(nth(i))
			heres, entries, tags = append(heres, p.state.Here(i)), append(entries, e), append(tags, n)
		}
		text := func() string { return fmt.Sprint(snapshot, loads, names, list, heres, entries, tags) }
		was, texts = append(was, text()), append(texts, text)
		for i := range was {
			if got := texts[i](); got != was[i] {
				t.Fatalf("behind %s, an answer became %s, it was %s", call, got, was[i])
			}
		}
	}
	ask("New")
	for i := range 6 {
		for seg := range 3 {
			for _, w := range []api.Word{blob(dig(i), 5, seg), tag(nth(i), dig(i), 3-seg), deletion(dig(i/2), seg), untag(nth(i), seg)} {
				p.apply(w)
				ask(fmt.Sprintf("Apply of %v", w))
			}
		}
	}
	for _, segs := range [][]int{{3, 2, 1, 0}, {0, 2, 3}, {3, 2}, {2, 3, 3}, {2}, nil} {
		p.keep(segs...)
		ask(fmt.Sprintf("Keep of %v", segs))
	}
}

// R4: states on which the same calls are made answer the same; so do those of whose snapshot the lists were in another order, and those whose records of different digests and names came in another order.
func TestSameCalls(t *testing.T) {
	var s api.Snapshot
	var words []api.Word
	for i := range 100 {
		s.Digests = append(s.Digests, putEntry(blob(mixed(i), i, i%4), i%4, 2))
		s.Tags = append(s.Tags, tagEntry(tag(nth(i), mixed(i), i%4), i%4, 2))
		s.Loads = append(s.Loads, api.Load{Seg: i, All: 100 * i})
		words = append(words, image(mixed(200+i), i, i%3), untag(nth(i), 3), deletion(mixed(i), i%7))
	}
	first := New(s)
	for _, w := range words {
		first.Apply(w)
	}
	first.Keep([]int{1, 2, 3, 50})
	for i := range 4 {
		for _, order := range orders(words) {
			x := New(api.Snapshot{Digests: orders(s.Digests)[i], Tags: orders(s.Tags)[3-i], Loads: orders(s.Loads)[i]})
			for _, w := range order {
				x.Apply(w)
			}
			x.Keep([]int{3, 1, 50, 2, 1})
			checkSnapshot(t, x, first.Snapshot())
			for seg := range 8 {
				checkHere(t, x, seg, first.Here(seg)...)
			}
		}
	}
}

// R4: two states side by side do not meddle with each other, also if they were made of the same snapshot.
func TestTwoStates(t *testing.T) {
	s := full()
	p, q := newPair(t, full()), newPair(t, full())
	p.state, q.state = New(s), New(s)
	for i := range 6 {
		p.apply(tag(nth(i), dig(9), 4))
		q.all()
		q.apply(deletion(dig(i), 2))
		p.all()
		q.apply(blob(mixed(i), 3, 7))
		p.all()
	}
	p.keep(4, 1)
	q.all()
	q.keep(2, 3)
	p.all()
	q.keep()
	p.all()
	q.apply(tag(nth(1), dig(1), 1))
	p.all()
	q.all()
}

// R1: long names, and entries and loads of thousands of segments: each call comes to its end.
func TestLong(t *testing.T) {
	p := newPair(t, api.Snapshot{})
	for i := range 20 {
		p.apply(tag(strings.Repeat("x", 1000*(i*7%20)), dig(i), i%3))
	}
	p.all()
	p.keep(2, 0)
	p.all()
	x := New(api.Snapshot{})
	var segs []int
	var loads []api.Load
	for seg := range 3000 {
		x.Apply(blob(dig(1), 5, seg*7%3000))
		segs = append(segs, seg)
		loads = append(loads, api.Load{Seg: seg, All: 58})
	}
	loads[2999*7%3000].Live = 58
	checkLoads(t, x, loads...)
	x.Keep(segs)
	checkLoads(t, x, loads...)
	checkDigest(t, x, dig(1), putEntry(blob(dig(1), 5, 2999*7%3000), segs...), true)
	x.Keep(segs[:100])
	checkLoads(t, x, loads[:100]...)
}
