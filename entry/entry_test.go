package entry

import (
	"math"
	"math/rand/v2"
	"slices"
	"testing"

	"stillage/api"
)

// The functions, as the chapter declares them.
var (
	_ func(e api.Entry, w api.Word) api.Entry               = Put
	_ func(e api.Entry, w api.Word) api.Entry               = Delete
	_ func(t api.TagEntry, w api.Word) api.TagEntry         = Tag
	_ func(t api.TagEntry, w api.Word) api.TagEntry         = Untag
	_ func(e api.Entry) bool                                = Alive
	_ func(t api.TagEntry) bool                             = AliveTag
	_ func(e api.Entry, segs []int) (api.Entry, bool)       = Keep
	_ func(t api.TagEntry, segs []int) (api.TagEntry, bool) = KeepTag
)

// P19.1 to P19.3: what the chapter's examples say of a digest.
func TestExamples(t *testing.T) {
	for _, kind := range []int{api.RecBlob, api.RecManifest} {
		w := api.Word{Kind: kind, Seq: 7, Digest: alpha, Size: 41, Loc: locIn(3)}
		e := Put(api.Entry{}, w)
		w.Loc = api.Loc{Seg: 1, Off: 99, Len: 80}
		e = Put(e, w)
		if !sameEntry(e, api.Entry{Digest: alpha, Kind: kind, Size: 41, Loc: w.Loc, In: []int{1, 3}}) || !Alive(e) {
			t.Fatalf("after two puts it is %v", e)
		}
		checkKeep(t, e, []int{3}, lostEntry(3), true)
		checkKeep(t, e, []int{1}, api.Entry{Digest: alpha, Kind: kind, Size: 41, Loc: w.Loc, In: []int{1}}, true)
		checkKeep(t, e, []int{2}, api.Entry{}, false)
		x := Delete(e, api.Word{Kind: api.RecDelete, Seq: 8, Digest: alpha, Loc: locIn(3)})
		if !sameEntry(x, deletedEntry(3, 1, 3)) || !Alive(x) {
			t.Fatalf("after a delete it is %v", x)
		}
		checkKeep(t, x, []int{1}, lostEntry(1), true)
		checkKeep(t, x, []int{3}, deletedEntry(3, 3), true)
		k, _ := Keep(x, []int{3})
		checkAlive(t, k, false)
	}
}

// P19.1 to P19.3: what the chapter's examples say, of a name.
func TestExamplesOfNames(t *testing.T) {
	x := Tag(api.TagEntry{}, api.Word{Kind: api.RecTag, Seq: 7, Name: "v1", Digest: beta, Loc: locIn(3)})
	x = Tag(x, api.Word{Kind: api.RecTag, Seq: 8, Name: "v1", Digest: alpha, Loc: locIn(1)})
	if !sameTag(x, presentTag(1, 1, 3)) || !AliveTag(x) {
		t.Fatalf("after two tags it is %v", x)
	}
	checkKeepTag(t, x, []int{3}, lostTag(3), true)
	checkKeepTag(t, x, []int{1}, presentTag(1, 1), true)
	checkKeepTag(t, x, []int{2}, api.TagEntry{}, false)
	u := Untag(x, api.Word{Kind: api.RecUntag, Seq: 9, Name: "v1", Loc: locIn(3)})
	if !sameTag(u, goneTag(3, 1, 3)) || !AliveTag(u) {
		t.Fatalf("after an untag it is %v", u)
	}
	checkKeepTag(t, u, []int{1}, lostTag(1), true)
	checkKeepTag(t, u, []int{3}, goneTag(3, 3), true)
	k, _ := KeepTag(u, []int{3})
	checkAliveTag(t, k, false)
}

// P19.2, P19.3: a digest is written in segment 1 and deleted in segment 2: the delete is live as long as segment 1 exists.
func TestExampleOfDelete(t *testing.T) {
	e := Put(api.Entry{}, api.Word{Kind: api.RecBlob, Digest: alpha, Size: 41, Loc: locIn(1)})
	e = Delete(e, api.Word{Kind: api.RecDelete, Digest: alpha, Loc: locIn(2)})
	checkAlive(t, e, true)
	k, ok := Keep(e, []int{1, 2})
	if !ok || !sameEntry(k, deletedEntry(2, 1)) || !Alive(k) {
		t.Fatalf("with both segments it is %v, %v", k, ok)
	}
	checkKeep(t, e, []int{2}, api.Entry{}, false)
	x := Tag(api.TagEntry{}, api.Word{Kind: api.RecTag, Name: "v1", Digest: alpha, Loc: locIn(1)})
	x = Untag(x, api.Word{Kind: api.RecUntag, Name: "v1", Loc: locIn(2)})
	checkAliveTag(t, x, true)
	l, ok := KeepTag(x, []int{1, 2})
	if !ok || !sameTag(l, goneTag(2, 1)) || !AliveTag(l) {
		t.Fatalf("with both segments it is %v, %v", l, ok)
	}
	checkKeepTag(t, x, []int{2}, api.TagEntry{}, false)
}

// P19.1: from which of both each field comes, of an entry and a record that differ in each.
func TestFields(t *testing.T) {
	e := api.Entry{Digest: alpha, Kind: api.RecManifest, Size: 11, Loc: api.Loc{Seg: 21, Off: 22, Len: 23}, In: []int{31, 32}}
	x := api.TagEntry{Name: "v1", Digest: alpha, Loc: api.Loc{Seg: 21, Off: 22, Len: 23}, In: []int{31, 32}}
	w := api.Word{Kind: api.RecBlob, Seq: 41, Digest: beta, Name: "v2", Size: 51, Loc: api.Loc{Seg: 61, Off: 62, Len: 63}}
	checkPut(t, e, w, api.Entry{Digest: beta, Kind: api.RecBlob, Size: 51, Loc: api.Loc{Seg: 61, Off: 62, Len: 63}, In: []int{31, 32, 61}})
	checkDelete(t, e, w, api.Entry{Digest: alpha, Kind: api.RecDelete, Loc: api.Loc{Seg: 61, Off: 62, Len: 63}, In: []int{31, 32}})
	for _, was := range []bool{false, true} {
		x.Gone = was
		checkTag(t, x, w, api.TagEntry{Name: "v2", Digest: beta, Loc: api.Loc{Seg: 61, Off: 62, Len: 63}, In: []int{31, 32, 61}})
		checkUntag(t, x, w, api.TagEntry{Name: "v1", Gone: true, Loc: api.Loc{Seg: 61, Off: 62, Len: 63}, In: []int{31, 32}})
	}
}

// P19.1: a zero entry, a zero record, and both.
func TestZeros(t *testing.T) {
	w := api.Word{Kind: api.RecBlob, Seq: 41, Digest: beta, Name: "v2", Size: 51, Loc: api.Loc{Seg: 61, Off: 62, Len: 63}}
	checkPut(t, api.Entry{}, w, api.Entry{Digest: beta, Kind: api.RecBlob, Size: 51, Loc: w.Loc, In: []int{61}})
	checkDelete(t, api.Entry{}, w, api.Entry{Kind: api.RecDelete, Loc: w.Loc})
	checkTag(t, api.TagEntry{}, w, api.TagEntry{Name: "v2", Digest: beta, Loc: w.Loc, In: []int{61}})
	checkUntag(t, api.TagEntry{}, w, api.TagEntry{Gone: true, Loc: w.Loc})
	checkPut(t, presentEntry(3, 3), api.Word{}, api.Entry{In: []int{0, 3}})
	checkDelete(t, presentEntry(3, 3), api.Word{}, lostEntry(3))
	checkTag(t, presentTag(3, 3), api.Word{}, api.TagEntry{In: []int{0, 3}})
	checkUntag(t, presentTag(3, 3), api.Word{}, lostTag(3))
	checkPut(t, api.Entry{}, api.Word{}, api.Entry{In: []int{0}})
	checkDelete(t, api.Entry{}, api.Word{}, api.Entry{Kind: api.RecDelete})
	checkTag(t, api.TagEntry{}, api.Word{}, api.TagEntry{In: []int{0}})
	checkUntag(t, api.TagEntry{}, api.Word{}, api.TagEntry{Gone: true})
}

// P19.1: a record whose segment is in In already, is ahead of all, between two, or behind all.
func TestSegmentOfRecord(t *testing.T) {
	for _, c := range []struct {
		in   []int
		seg  int
		want []int
	}{
		{nil, 4, []int{4}},
		{[]int{}, 4, []int{4}},
		{[]int{4}, 4, []int{4}},
		{[]int{4}, 3, []int{3, 4}},
		{[]int{4}, 5, []int{4, 5}},
		{[]int{2, 4, 6}, 2, []int{2, 4, 6}},
		{[]int{2, 4, 6}, 4, []int{2, 4, 6}},
		{[]int{2, 4, 6}, 6, []int{2, 4, 6}},
		{[]int{2, 4, 6}, 1, []int{1, 2, 4, 6}},
		{[]int{2, 4, 6}, 3, []int{2, 3, 4, 6}},
		{[]int{2, 4, 6}, 5, []int{2, 4, 5, 6}},
		{[]int{2, 4, 6}, 7, []int{2, 4, 6, 7}},
		{[]int{2, 4, 6}, 0, []int{0, 2, 4, 6}},
		{[]int{2, 4, 6}, -2, []int{-2, 2, 4, 6}},
		{[]int{6, 2, 4}, 3, []int{2, 3, 4, 6}},
		{[]int{6, 4, 2}, 1, []int{1, 2, 4, 6}},
		{[]int{6, 4, 2}, 7, []int{2, 4, 6, 7}},
		{[]int{6, 4, 6, 4}, 4, []int{4, 6}},
		{[]int{6, 4, 6, 4}, 5, []int{4, 5, 6}},
		{[]int{5, 5, 5, 5}, 5, []int{5}},
		{[]int{5, 5, 5, 5}, 4, []int{4, 5}},
		{[]int{5, 5, 5, 5}, 6, []int{5, 6}},
		{[]int{-1, 1}, 0, []int{-1, 0, 1}},
		{[]int{0}, math.MinInt, []int{math.MinInt, 0}},
		{[]int{0}, math.MaxInt, []int{0, math.MaxInt}},
		{[]int{math.MinInt, math.MaxInt}, 0, []int{math.MinInt, 0, math.MaxInt}},
	} {
		w := api.Word{Kind: api.RecManifest, Name: "v1", Digest: alpha, Size: 41, Loc: locIn(c.seg)}
		for _, e := range []api.Entry{presentEntry(9, c.in...), deletedEntry(9, c.in...), {In: c.in}} {
			checkPut(t, e, w, presentEntry(c.seg, c.want...))
		}
		for _, x := range []api.TagEntry{presentTag(9, c.in...), goneTag(9, c.in...), {In: c.in}} {
			checkTag(t, x, w, presentTag(c.seg, c.want...))
		}
	}
}

// P19.1: In is ascending and has each segment once, however it came, and a delete or an untag adds none.
func TestOrderOfIn(t *testing.T) {
	for _, c := range sortsOfRows() {
		for _, seg := range nearSegments(c.row) {
			w := api.Word{Kind: api.RecManifest, Digest: alpha, Name: "v1", Size: 41, Loc: locIn(seg)}
			for _, e := range []api.Entry{presentEntry(seg, c.row...), presentEntry(4, c.row...), deletedEntry(seg, c.row...), deletedEntry(4, c.row...)} {
				checkDelete(t, e, w, deletedEntry(seg, c.want...))
				checkPut(t, e, w, wantPut(e, w))
			}
			for _, x := range []api.TagEntry{presentTag(seg, c.row...), presentTag(4, c.row...), goneTag(seg, c.row...), goneTag(4, c.row...)} {
				checkUntag(t, x, w, goneTag(seg, c.want...))
				checkTag(t, x, w, wantTag(x, w))
			}
		}
	}
}

// P19.1: any kind, in the entry and in the record: Put takes that of the record as it is, Delete makes it a delete.
func TestKinds(t *testing.T) {
	for _, of := range allKinds() {
		for _, kind := range allKinds() {
			e := api.Entry{Digest: alpha, Kind: of, Size: 41, Loc: locIn(2), In: []int{2}}
			w := api.Word{Kind: kind, Digest: beta, Name: "v2", Size: 51, Loc: locIn(3)}
			checkPut(t, e, w, api.Entry{Digest: beta, Kind: kind, Size: 51, Loc: locIn(3), In: []int{2, 3}})
			checkDelete(t, e, w, deletedEntry(3, 2))
			checkTag(t, presentTag(2, 2), w, api.TagEntry{Name: "v2", Digest: beta, Loc: locIn(3), In: []int{2, 3}})
			checkUntag(t, presentTag(2, 2), w, goneTag(3, 2))
		}
	}
}

// P19.1: fields such as no record has are taken as they are.
func TestWrongFields(t *testing.T) {
	numbers := []int{0, 1, -1, 1 << 40, math.MinInt, math.MaxInt}
	for _, n := range numbers {
		for _, m := range numbers {
			for _, name := range []string{"", "v1", "a/b", "\x00\xff", "a name that is much longer than a name may be"} {
				for _, d := range []api.Digest{{}, alpha, {31: 1}} {
					w := api.Word{Kind: m, Seq: uint64(n), Digest: d, Name: name, Size: m, Loc: api.Loc{Seg: n, Off: m, Len: n ^ m}}
					for _, in := range [][]int{nil, {m, n}, {n, 7, m, n}} {
						e := api.Entry{Digest: d, Kind: n, Size: m, Loc: api.Loc{Seg: m, Off: n, Len: m}, In: in}
						checkPut(t, e, w, wantPut(e, w))
						checkDelete(t, e, w, wantDelete(e, w))
						x := api.TagEntry{Name: name + "x", Digest: d, Gone: n > m, Loc: e.Loc, In: in}
						checkTag(t, x, w, wantTag(x, w))
						checkUntag(t, x, w, wantUntag(x, w))
						checkAliveTag(t, x, wantLive(x.Gone, x.Loc.Seg, in))
						for _, segs := range [][]int{nil, {n}, {m}, {7, n, m}} {
							left, ok := wantKeep(e, segs)
							checkKeep(t, e, segs, left, ok)
							leftTag, ok := wantKeepTag(x, segs)
							checkKeepTag(t, x, segs, leftTag, ok)
						}
					}
				}
			}
		}
	}
}

// P19.1: a delete behind a delete, a put behind a delete, and the like with names.
func TestOneBehindTheOther(t *testing.T) {
	first := api.Word{Kind: api.RecBlob, Digest: alpha, Size: 7, Loc: locIn(6)}
	again := api.Word{Kind: api.RecManifest, Digest: alpha, Name: "v1", Size: 41, Loc: locIn(4)}
	e := Delete(Put(api.Entry{}, first), again)
	checkDelete(t, e, first, deletedEntry(6, 6))
	checkPut(t, e, again, presentEntry(4, 4, 6))
	checkDelete(t, Put(e, again), api.Word{Loc: locIn(5)}, deletedEntry(5, 4, 6))
	tag := api.Word{Kind: api.RecTag, Name: "v1", Digest: beta, Loc: locIn(6)}
	x := Untag(Tag(api.TagEntry{}, tag), again)
	checkUntag(t, x, tag, goneTag(6, 6))
	checkTag(t, x, again, presentTag(4, 4, 6))
	checkUntag(t, Tag(x, again), api.Word{Loc: locIn(5)}, goneTag(5, 4, 6))
}

// P19.2: a delete or an untag is live if In has another segment than that of Loc.
func TestAlive(t *testing.T) {
	for _, c := range []struct {
		seg  int
		in   []int
		live bool
	}{
		{3, nil, false},
		{3, []int{}, false},
		{0, nil, false},
		{3, []int{3}, false},
		{3, []int{3, 3}, false},
		{3, []int{3, 3, 3, 3, 3}, false},
		{3, []int{1}, true},
		{3, []int{5}, true},
		{3, []int{1, 1}, true},
		{3, []int{1, 3}, true},
		{3, []int{3, 5}, true},
		{3, []int{3, 1}, true},
		{3, []int{5, 3}, true},
		{3, []int{1, 3, 5}, true},
		{3, []int{3, 3, 3, 3, 1}, true},
		{3, []int{1, 3, 3, 3, 3}, true},
		{3, []int{3, 3, 1, 3, 3}, true},
		{3, []int{2, 4}, true},
		{3, []int{0}, true},
		{3, []int{-3}, true},
		{0, []int{0}, false},
		{0, []int{0, 0}, false},
		{0, []int{1}, true},
		{0, []int{-1}, true},
		{0, []int{0, 1}, true},
		{-3, []int{-3}, false},
		{-3, []int{3}, true},
		{math.MaxInt, []int{math.MaxInt}, false},
		{math.MinInt, []int{math.MinInt}, false},
		{math.MaxInt, []int{math.MinInt}, true},
		{1, []int{1<<32 + 1}, true},
		{1, []int{257}, true},
	} {
		checkAlive(t, deletedEntry(c.seg, c.in...), c.live)
		checkAliveTag(t, goneTag(c.seg, c.in...), c.live)
		checkAlive(t, presentEntry(c.seg, c.in...), true)
		checkAliveTag(t, presentTag(c.seg, c.in...), true)
	}
}

// P19.2, P19.3: what a lost record leaves has a zero Loc, whose segment is 0 like that of any other.
func TestAliveOfLost(t *testing.T) {
	for _, in := range rowsUpTo(3, 0, 1, -1) {
		checkAlive(t, lostEntry(in...), wantLive(true, 0, in))
		checkAliveTag(t, lostTag(in...), wantLive(true, 0, in))
	}
	checkAlive(t, lostEntry(), false)
	checkAliveTag(t, lostTag(), false)
	e, _ := Keep(presentEntry(3, 1, 3), []int{1})
	x, _ := KeepTag(presentTag(3, 1, 3), []int{1})
	checkAlive(t, e, true)
	checkAliveTag(t, x, true)
}

// P19.2: neither Off and Len nor any other field than those of which the chapter speaks changes whether a record is live.
func TestAliveHangsOnLittle(t *testing.T) {
	numbers := []int{0, 1, 3, 5, -1, math.MinInt, math.MaxInt}
	for _, n := range numbers {
		for _, m := range numbers {
			for _, d := range []api.Digest{{}, alpha} {
				loc := api.Loc{Seg: 3, Off: n, Len: m}
				for _, in := range rowsUpTo(2, 0, 3, n) {
					checkAlive(t, api.Entry{Digest: d, Kind: api.RecDelete, Size: m, Loc: loc, In: in}, wantLive(true, 3, in))
					checkAlive(t, api.Entry{Digest: d, Kind: api.RecBlob, Size: m, Loc: loc, In: in}, true)
					checkAliveTag(t, api.TagEntry{Digest: d, Gone: true, Loc: loc, In: in}, wantLive(true, 3, in))
					checkAliveTag(t, api.TagEntry{Name: "v1", Digest: d, Loc: loc, In: in}, true)
				}
			}
		}
	}
}

// P19.2, P19.4: an entry that is present, of whichever kind but a delete, is live, and so is a zero one.
func TestPresentIsLive(t *testing.T) {
	for _, c := range sortsOfRows() {
		for _, seg := range nearSegments(c.row) {
			for _, kind := range kindsOfEntries() {
				checkAlive(t, api.Entry{Digest: alpha, Kind: kind, Size: 41, Loc: locIn(seg), In: c.row}, kind != api.RecDelete || wantLive(true, seg, c.row))
			}
			checkAliveTag(t, presentTag(seg, c.row...), true)
			checkAliveTag(t, api.TagEntry{Loc: locIn(seg), In: c.row}, true)
			checkAliveTag(t, goneTag(seg, c.row...), wantLive(true, seg, c.row))
			put := Put(deletedEntry(seg, c.row...), api.Word{Kind: api.RecBlob, Loc: locIn(seg)})
			tag := Tag(goneTag(seg, c.row...), api.Word{Kind: api.RecTag, Loc: locIn(seg)})
			if !Alive(put) || !AliveTag(tag) {
				t.Fatalf("%v or %v is not live", put, tag)
			}
		}
	}
	checkAlive(t, api.Entry{}, true)
	checkAliveTag(t, api.TagEntry{}, true)
}

// P19.3: which segments are left of In, and what becomes of the latest record: of an entry that is present and one that is deleted, of a name with a tag and one that is gone.
func TestKeep(t *testing.T) {
	const nothing, stays, isLost = 0, 1, 2
	for _, c := range []struct {
		seg               int
		in, segs          []int
		ofPresent, ofGone int
		left              []int
	}{
		// The segment of Loc is among segs and in In.
		{3, []int{3}, []int{3}, stays, stays, []int{3}},
		{3, []int{1, 3}, []int{3}, stays, stays, []int{3}},
		{3, []int{1, 3}, []int{1, 3}, stays, stays, []int{1, 3}},
		{3, []int{1, 3}, []int{3, 1}, stays, stays, []int{1, 3}},
		{3, []int{3, 1}, []int{3, 1}, stays, stays, []int{1, 3}},
		{3, []int{1, 3, 5}, []int{5, 3}, stays, stays, []int{3, 5}},
		{3, []int{1, 3, 5}, []int{0, 1, 2, 3, 4, 5, 6}, stays, stays, []int{1, 3, 5}},
		{3, []int{1, 3, 5}, []int{6, 5, 4, 3, 2, 1, 0}, stays, stays, []int{1, 3, 5}},
		{3, []int{5, 3, 1}, []int{3, 9, 1}, stays, stays, []int{1, 3}},
		{3, []int{5, 1, 5, 3, 1}, []int{5, 3, 3, 5, 5}, stays, stays, []int{3, 5}},
		{3, []int{3, 3, 3}, []int{3, 3}, stays, stays, []int{3}},
		// It is among segs, but not in In.
		{3, []int{1}, []int{1, 3}, stays, stays, []int{1}},
		{3, []int{5, 1}, []int{3, 5, 1, 7}, stays, stays, []int{1, 5}},
		{3, []int{1}, []int{3}, stays, nothing, nil},
		{3, []int{1, 5}, []int{2, 3, 4}, stays, nothing, nil},
		{3, nil, []int{3}, stays, nothing, nil},
		{3, []int{}, []int{1, 3, 5}, stays, nothing, nil},
		{0, nil, []int{0}, stays, nothing, nil},
		// It is in In, but not among segs.
		{3, []int{3}, []int{1}, nothing, nothing, nil},
		{3, []int{3}, []int{1, 2, 4}, nothing, nothing, nil},
		{3, []int{1, 3}, []int{1}, isLost, isLost, []int{1}},
		{3, []int{3, 5}, []int{5, 4}, isLost, isLost, []int{5}},
		{3, []int{5, 3, 1}, []int{5, 1, 2}, isLost, isLost, []int{1, 5}},
		{3, []int{1, 3, 1}, []int{1, 1, 1}, isLost, isLost, []int{1}},
		{0, []int{0, 1}, []int{1}, isLost, isLost, []int{1}},
		// It is neither among segs nor in In.
		{3, nil, nil, nothing, nothing, nil},
		{3, []int{}, []int{}, nothing, nothing, nil},
		{3, nil, []int{1, 2}, nothing, nothing, nil},
		{3, []int{1}, nil, nothing, nothing, nil},
		{3, []int{1, 3}, nil, nothing, nothing, nil},
		{3, []int{1, 3}, []int{}, nothing, nothing, nil},
		{3, []int{1}, []int{2}, nothing, nothing, nil},
		{3, []int{1}, []int{1}, isLost, isLost, []int{1}},
		{3, []int{5, 1, 7}, []int{7, 1}, isLost, isLost, []int{1, 7}},
		{0, []int{1}, []int{1}, isLost, isLost, []int{1}},
		{0, nil, nil, nothing, nothing, nil},
		// Numbers that no segment has.
		{-3, []int{-3, 0}, []int{-3, 0, 3}, stays, stays, []int{-3, 0}},
		{-3, []int{-3, 0}, []int{0, 3}, isLost, isLost, []int{0}},
		{-3, []int{-3, 1}, []int{0, 3}, nothing, nothing, nil},
		{math.MaxInt, []int{math.MaxInt, math.MinInt}, []int{math.MinInt}, isLost, isLost, []int{math.MinInt}},
		{math.MinInt, []int{math.MaxInt, math.MinInt}, []int{math.MinInt, 0, math.MaxInt}, stays, stays, []int{math.MinInt, math.MaxInt}},
		{1, []int{1, 2}, []int{1<<32 + 1, 1<<32 + 2, 257, 258}, nothing, nothing, nil},
	} {
		entryOf := func(is int, e api.Entry) (api.Entry, bool) {
			return []api.Entry{{}, e, lostEntry(c.left...)}[is], is != nothing
		}
		tagOf := func(is int, x api.TagEntry) (api.TagEntry, bool) {
			return []api.TagEntry{{}, x, lostTag(c.left...)}[is], is != nothing
		}
		left, ok := entryOf(c.ofPresent, presentEntry(c.seg, c.left...))
		checkKeep(t, presentEntry(c.seg, c.in...), c.segs, left, ok)
		left, ok = entryOf(c.ofGone, deletedEntry(c.seg, c.left...))
		checkKeep(t, deletedEntry(c.seg, c.in...), c.segs, left, ok)
		leftTag, ok := tagOf(c.ofPresent, presentTag(c.seg, c.left...))
		checkKeepTag(t, presentTag(c.seg, c.in...), c.segs, leftTag, ok)
		leftTag, ok = tagOf(c.ofGone, goneTag(c.seg, c.left...))
		checkKeepTag(t, goneTag(c.seg, c.in...), c.segs, leftTag, ok)
	}
}

// P19.3: if the segment of Loc exists, each field but In stays as it was, whatever it is; if not, only Digest or Name does.
func TestKeepFields(t *testing.T) {
	for _, kind := range kindsOfEntries() {
		for _, size := range []int{0, 41, -1, math.MaxInt} {
			for _, loc := range []api.Loc{{Seg: 3}, {Seg: 3, Off: 37, Len: 62}, {Seg: 3, Off: -1, Len: math.MaxInt}} {
				for _, d := range []api.Digest{{}, alpha, beta} {
					e := api.Entry{Digest: d, Kind: kind, Size: size, Loc: loc, In: []int{3, 1}}
					checkKeep(t, e, []int{3}, api.Entry{Digest: d, Kind: kind, Size: size, Loc: loc, In: []int{3}}, true)
					checkKeep(t, e, []int{1}, api.Entry{Digest: d, Kind: api.RecDelete, In: []int{1}}, true)
					checkKeep(t, e, []int{2}, api.Entry{}, false)
					e.In = []int{1}
					if kind == api.RecDelete {
						checkKeep(t, e, []int{3}, api.Entry{}, false)
					} else {
						checkKeep(t, e, []int{3}, api.Entry{Digest: d, Kind: kind, Size: size, Loc: loc}, true)
					}
					for _, is := range []bool{false, true} {
						checkKeepTagFields(t, api.TagEntry{Name: "v1", Digest: d, Gone: is, Loc: loc})
						checkKeepTagFields(t, api.TagEntry{Digest: d, Gone: is, Loc: loc})
					}
				}
			}
		}
	}
}

// checkKeepTagFields keeps a name in segments 1 and 3, where that of its Loc is 3.
func checkKeepTagFields(t *testing.T, x api.TagEntry) {
	t.Helper()
	came, want := x, x
	came.In, want.In = []int{3, 1}, []int{3}
	checkKeepTag(t, came, []int{3}, want, true)
	checkKeepTag(t, came, []int{1}, api.TagEntry{Name: x.Name, Gone: true, In: []int{1}}, true)
	checkKeepTag(t, came, []int{2}, api.TagEntry{}, false)
	came.In = []int{1}
	if x.Gone {
		checkKeepTag(t, came, []int{3}, api.TagEntry{}, false)
	} else {
		checkKeepTag(t, came, []int{3}, x, true)
	}
}

// P19.3: a zero entry has its record in segment 0.
func TestKeepZero(t *testing.T) {
	for _, segs := range [][]int{nil, {}, {1}, {-1, 1, 2}} {
		checkKeep(t, api.Entry{}, segs, api.Entry{}, false)
		checkKeepTag(t, api.TagEntry{}, segs, api.TagEntry{}, false)
		checkKeep(t, api.Entry{Kind: api.RecDelete}, segs, api.Entry{}, false)
		checkKeepTag(t, api.TagEntry{Gone: true}, segs, api.TagEntry{}, false)
	}
	for _, segs := range [][]int{{0}, {1, 0}, {0, 0}} {
		checkKeep(t, api.Entry{}, segs, api.Entry{}, true)
		checkKeepTag(t, api.TagEntry{}, segs, api.TagEntry{}, true)
		checkKeep(t, api.Entry{Kind: api.RecDelete}, segs, api.Entry{}, false)
		checkKeepTag(t, api.TagEntry{Gone: true}, segs, api.TagEntry{}, false)
	}
}

// P19.3: rows of all sorts as In and as segments.
func TestKeepOfRows(t *testing.T) {
	for _, in := range sortsOfRows() {
		for _, c := range sortsOfRows() {
			for _, segs := range [][]int{c.row, append(slices.Clone(c.row), in.row...), append(slices.Clone(in.want), 77)} {
				for _, seg := range append(nearSegments(in.row), 77) {
					checkKeepOf(t, seg, in.row, segs)
				}
			}
		}
	}
}

// P19.3, R3: the row that is In is the row of segments as well.
func TestKeepOfInItself(t *testing.T) {
	for _, c := range sortsOfRows() {
		for _, seg := range nearSegments(c.row) {
			row, stays := withSpareRoom(c.row)
			for _, e := range []api.Entry{presentEntry(seg, row...), deletedEntry(seg, row...)} {
				want, left := wantKeep(e, c.want)
				if got, ok := Keep(e, row); !sameEntry(got, want) || ok != left {
					t.Fatalf("Keep(%v, %v) = %v, %v, want %v, %v", e, row, got, ok, want, left)
				}
				stays(t, "Keep")
			}
			for _, x := range []api.TagEntry{presentTag(seg, row...), goneTag(seg, row...)} {
				want, left := wantKeepTag(x, c.want)
				if got, ok := KeepTag(x, row); !sameTag(got, want) || ok != left {
					t.Fatalf("KeepTag(%v, %v) = %v, %v, want %v, %v", x, row, got, ok, want, left)
				}
				stays(t, "KeepTag")
			}
		}
	}
}

// checkKeepOf holds Keep and KeepTag of entries that are present and that are not against the chapter.
func checkKeepOf(t *testing.T, seg int, in, segs []int) {
	t.Helper()
	for _, e := range []api.Entry{presentEntry(seg, in...), deletedEntry(seg, in...)} {
		left, ok := wantKeep(e, segs)
		checkKeep(t, e, segs, left, ok)
	}
	for _, x := range []api.TagEntry{presentTag(seg, in...), goneTag(seg, in...)} {
		left, ok := wantKeepTag(x, segs)
		checkKeepTag(t, x, segs, left, ok)
	}
}

// P19.3: all rows of up to four of four segments as In, all of up to three of five as segments, and each segment as that of Loc.
func TestKeepOfSmallRows(t *testing.T) {
	for _, in := range rowsUpTo(4, 0, 1, 2, 3) {
		for _, segs := range rowsUpTo(3, 3, 2, 1, 0, 4) {
			for seg := range 6 {
				checkKeepOf(t, seg, in, segs)
			}
		}
	}
}

// P19.1, P19.2: all rows of up to four of five segments as In, and each segment as those of both.
func TestSmallRows(t *testing.T) {
	for _, in := range rowsUpTo(4, -1, 0, 1, 2, 3) {
		for seg := -2; seg < 5; seg++ {
			w := api.Word{Kind: api.RecManifest, Digest: alpha, Name: "v1", Size: 41, Loc: locIn(seg)}
			for _, e := range []api.Entry{presentEntry(1, in...), deletedEntry(2, in...)} {
				checkPut(t, e, w, wantPut(e, w))
				checkDelete(t, e, w, wantDelete(e, w))
			}
			for _, x := range []api.TagEntry{presentTag(1, in...), goneTag(2, in...)} {
				checkTag(t, x, w, wantTag(x, w))
				checkUntag(t, x, w, wantUntag(x, w))
			}
			checkAlive(t, presentEntry(seg, in...), true)
			checkAlive(t, deletedEntry(seg, in...), wantLive(true, seg, in))
			checkAliveTag(t, presentTag(seg, in...), true)
			checkAliveTag(t, goneTag(seg, in...), wantLive(true, seg, in))
		}
	}
}

// P19.4: Keep of fewer segments equals Keep of these after Keep of more.
func TestKeepTwice(t *testing.T) {
	for _, more := range subsets(0, 1, 2, 3, 4) {
		for _, fewer := range subsets(more...) {
			for seg := range 6 {
				for _, in := range append(rowsUpTo(2, 0, 1, 2, 3, 4), []int{4, 1, 2, 1}, []int{0, 1, 2, 3, 4}, []int{3, 2, 1}) {
					checkTwice(t, seg, in, more, fewer)
				}
			}
		}
	}
}

// P19.4: the same, for all rows of up to three segments with all rows of up to two of these.
func TestKeepTwiceOfRows(t *testing.T) {
	for _, more := range rowsUpTo(3, 3, 1, 2) {
		for _, fewer := range rowsUpTo(2, more...) {
			for seg := range 5 {
				for _, in := range [][]int{nil, {1}, {3}, {2, 1}, {1, 3}, {3, 2, 1}, {4, 2, 2}, {4}} {
					checkTwice(t, seg, in, more, fewer)
				}
			}
		}
	}
}

// checkTwice keeps entries in fewer segments, at once and after more. Of what nothing is left, nothing can be kept.
func checkTwice(t *testing.T, seg int, in, more, fewer []int) {
	t.Helper()
	for _, e := range []api.Entry{presentEntry(seg, in...), deletedEntry(seg, in...), lostEntry(in...), {}} {
		once, left := Keep(e, fewer)
		first, still := Keep(e, more)
		second, ok := first, false
		if still {
			second, ok = Keep(first, fewer)
		}
		if !sameEntry(once, second) || left != ok {
			t.Fatalf("of %v, %v keeps %v, %v, but after %v it keeps %v, %v", e, fewer, once, left, more, second, ok)
		}
	}
	for _, x := range []api.TagEntry{presentTag(seg, in...), goneTag(seg, in...), lostTag(in...), {}} {
		once, left := KeepTag(x, fewer)
		first, still := KeepTag(x, more)
		second, ok := first, false
		if still {
			second, ok = KeepTag(first, fewer)
		}
		if !sameTag(once, second) || left != ok {
			t.Fatalf("of %v, %v keeps %v, %v, but after %v it keeps %v, %v", x, fewer, once, left, more, second, ok)
		}
	}
}

// P19.4: Keep of the same segments once more, in another order or with one of them twice, changes nothing.
func TestKeepAgain(t *testing.T) {
	for _, segs := range rowsUpTo(3, 0, 1, 2, 3) {
		other := append(slices.Clone(segs), segs...)
		slices.Reverse(other)
		for _, in := range rowsUpTo(3, 0, 1, 2, 3) {
			for seg := range 4 {
				checkTwice(t, seg, in, segs, segs)
				checkTwice(t, seg, in, segs, other)
				checkTwice(t, seg, in, other, segs)
			}
		}
	}
}

// history is what happened to a digest and to a name alike: the segments into which they were written, and the segment of the latest record.
type history struct {
	in          map[int]bool
	seg         int
	gone, known bool
}

// do does one of the calls: a record in segment 1 to 3, a delete in one of them, or the loss of one of them.
func (h *history) do(call int) {
	seg := call%3 + 1
	switch call / 3 {
	case 0:
		h.in[seg] = true
		h.seg, h.gone, h.known = seg, false, true
	case 1:
		if h.known {
			h.seg, h.gone = seg, true
		}
	case 2:
		delete(h.in, seg)
		if h.seg == seg {
			h.seg, h.gone = 0, true
		}
		// A delete without what it deletes tells nothing, and nothing is known any more.
		h.known = h.known && len(h.in) > 0
	}
}

// segments answers those into which was written, ascending.
func (h *history) segments() []int {
	var out []int
	for seg := range h.in {
		out = append(out, seg)
	}
	return rowOf(out...)
}

// P19.1 to P19.3: all rows of up to five calls behind each other, held against what happened.
func TestRowsOfCalls(t *testing.T) {
	for _, row := range rowsUpTo(5, 0, 1, 2, 3, 4, 5, 6, 7, 8) {
		h := &history{in: map[int]bool{}}
		e, x := api.Entry{}, api.TagEntry{}
		for _, call := range row {
			was := h.known
			h.do(call)
			e, x = doCall(call, was, e, x)
		}
		checkHistory(t, row, h, e, x)
	}
}

// doCall does a call to the entries of alpha and v1; what is not known can neither be deleted nor be kept.
func doCall(call int, known bool, e api.Entry, x api.TagEntry) (api.Entry, api.TagEntry) {
	seg := call%3 + 1
	w := api.Word{Kind: api.RecBlob, Digest: alpha, Name: "v1", Size: 7, Loc: locIn(seg)}
	others := slices.DeleteFunc([]int{3, 1, 2}, func(n int) bool { return n == seg })
	switch {
	case call/3 == 0:
		return Put(e, w), Tag(x, w)
	case !known:
		return e, x
	case call/3 == 1:
		return Delete(e, w), Untag(x, w)
	}
	e, _ = Keep(e, others)
	x, _ = KeepTag(x, others)
	return e, x
}

func checkHistory(t *testing.T, row []int, h *history, e api.Entry, x api.TagEntry) {
	t.Helper()
	want, wantName := api.Entry{}, api.TagEntry{}
	loc := api.Loc{}
	if h.seg != 0 {
		loc = locIn(h.seg)
	}
	switch {
	case h.known && h.gone:
		want = api.Entry{Digest: alpha, Kind: api.RecDelete, Loc: loc, In: h.segments()}
		wantName = api.TagEntry{Name: "v1", Gone: true, Loc: loc, In: h.segments()}
	case h.known:
		want = api.Entry{Digest: alpha, Kind: api.RecBlob, Size: 7, Loc: loc, In: h.segments()}
		wantName = api.TagEntry{Name: "v1", Digest: alpha, Loc: loc, In: h.segments()}
	}
	if !sameEntry(e, want) || !sameTag(x, wantName) {
		t.Fatalf("the calls %v came to %v and %v, want %v and %v", row, e, x, want, wantName)
	}
}

// P19.1 to P19.3: drawn entries, records and rows, short and long.
func TestDrawn(t *testing.T) {
	random := rand.New(rand.NewPCG(19, 58))
	draw := func() []int {
		row := make([]int, random.IntN(1<<random.IntN(9)))
		span := 1 + random.IntN(1<<random.IntN(10))
		for i := range row {
			row[i] = random.IntN(span) - span/8
		}
		return row
	}
	for range 20000 {
		in, segs := draw(), draw()
		seg := random.IntN(20) - 2
		if len(in) > 0 && random.IntN(2) == 0 {
			seg = in[random.IntN(len(in))]
		}
		w := api.Word{Kind: 1 + random.IntN(2), Digest: api.Digest{0: byte(random.IntN(3)), 31: 7}, Name: "v2", Size: random.IntN(9), Loc: locIn(seg)}
		checkKeepOf(t, seg, in, segs)
		e, x := presentEntry(random.IntN(9), in...), goneTag(random.IntN(9), in...)
		checkPut(t, e, w, wantPut(e, w))
		checkDelete(t, e, w, wantDelete(e, w))
		checkTag(t, x, w, wantTag(x, w))
		checkUntag(t, x, w, wantUntag(x, w))
		checkAlive(t, deletedEntry(seg, in...), wantLive(true, seg, in))
		checkAliveTag(t, goneTag(seg, in...), wantLive(true, seg, in))
	}
}

// R3: an answer is new memory: whatever is done to it, what came in stays, and whatever is done to that, the answer stays.
func TestAnswersAreNew(t *testing.T) {
	for _, c := range sortsOfRows() {
		in, segs := slices.Clone(c.want), slices.Clone(c.want)
		w := api.Word{Kind: api.RecBlob, Digest: alpha, Name: "v1", Loc: locIn(3)}
		kept, _ := Keep(presentEntry(3, in...), segs)
		keptTag, _ := KeepTag(presentTag(3, in...), segs)
		for _, got := range [][]int{
			Put(presentEntry(3, in...), w).In, Delete(presentEntry(3, in...), w).In, Tag(presentTag(3, in...), w).In, Untag(presentTag(3, in...), w).In, kept.In, keptTag.In,
		} {
			was := slices.Clone(got)
			for _, came := range [][]int{in, segs} {
				for i := range came {
					came[i] += 1000
				}
			}
			if !slices.Equal(got, was) {
				t.Fatalf("an answer %v became %v", was, got)
			}
			for _, came := range [][]int{in, segs} {
				copy(came, c.want)
			}
			got = append(got, 5, 5, 5)
			for i := range got {
				got[i] = -7
			}
			if !slices.Equal(in, c.want) || !slices.Equal(segs, c.want) {
				t.Fatalf("what came in became %v and %v", in, segs)
			}
		}
	}
}

// R3: entries that come from one do not meddle with each other, even where that one has spare room behind its In.
func TestEntriesOfOneEntry(t *testing.T) {
	e, x := presentEntry(3, append(make([]int, 0, 9), 3)...), presentTag(3, append(make([]int, 0, 9), 3)...)
	word := func(seg int) api.Word {
		return api.Word{Kind: api.RecManifest, Digest: alpha, Name: "v1", Size: 41, Loc: locIn(seg)}
	}
	a, b, c := Put(e, word(5)), Put(e, word(6)), Put(e, word(1))
	k, l, m := Tag(x, word(5)), Tag(x, word(6)), Tag(x, word(1))
	if !sameEntry(a, presentEntry(5, 3, 5)) || !sameEntry(b, presentEntry(6, 3, 6)) || !sameEntry(c, presentEntry(1, 1, 3)) {
		t.Fatalf("they became %v, %v and %v", a, b, c)
	}
	if !sameTag(k, presentTag(5, 3, 5)) || !sameTag(l, presentTag(6, 3, 6)) || !sameTag(m, presentTag(1, 1, 3)) {
		t.Fatalf("they became %v, %v and %v", k, l, m)
	}
}

// R4: the same call answers the same, whatever was called before.
func TestSameCalls(t *testing.T) {
	in := []int{5, 1, 5, 3}
	for range 3 {
		checkPut(t, presentEntry(3, in...), api.Word{Kind: api.RecManifest, Digest: alpha, Size: 41, Loc: locIn(4)}, presentEntry(4, 1, 3, 4, 5))
		checkKeep(t, presentEntry(3, in...), []int{3, 5}, presentEntry(3, 3, 5), true)
		checkKeep(t, deletedEntry(3, in...), []int{1, 5}, lostEntry(1, 5), true)
		checkDelete(t, presentEntry(3, in...), api.Word{Loc: locIn(7)}, deletedEntry(7, 1, 3, 5))
		checkTag(t, goneTag(3, in...), api.Word{Name: "v1", Digest: alpha, Loc: locIn(4)}, presentTag(4, 1, 3, 4, 5))
		checkKeepTag(t, presentTag(3, in...), []int{1, 5}, lostTag(1, 5), true)
		checkUntag(t, presentTag(3, in...), api.Word{Loc: locIn(7)}, goneTag(7, 1, 3, 5))
	}
}

// R1: each call comes to an end with rows of many segments, in any order and with many that are the same.
func TestLongRows(t *testing.T) {
	const size = 1 << 16
	up, down, same := make([]int, size), make([]int, size), make([]int, size)
	for i := range size {
		up[i], down[i], same[i] = i, size-1-i, 7
	}
	w := api.Word{Kind: api.RecManifest, Digest: alpha, Name: "v1", Size: 41, Loc: locIn(size)}
	for _, in := range [][]int{up, down, same} {
		checkPut(t, presentEntry(3, in...), w, wantPut(presentEntry(3, in...), w))
		checkUntag(t, presentTag(3, in...), w, wantUntag(presentTag(3, in...), w))
		checkAlive(t, deletedEntry(7, in...), wantLive(true, 7, in))
		for _, segs := range [][]int{up, down, same} {
			checkKeepOf(t, 7, in, segs)
			checkKeepOf(t, size, in, segs)
		}
	}
}
