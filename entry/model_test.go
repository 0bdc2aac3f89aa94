package entry

import (
	"math"
	"slices"
	"testing"

	"stillage/api"
)

// What the chapter says, written down a second time. Rows of segments are made of maps here, and no function of the package is called.

// rowWhere answers the segments of l that fit, ascending and each once.
func rowWhere(l []int, fits func(seg int) bool) []int {
	found := map[int]bool{}
	var out []int
	for _, seg := range l {
		if fits(seg) && !found[seg] {
			found[seg] = true
			out = append(out, seg)
		}
	}
	slices.Sort(out)
	return out
}

func rowOf(l ...int) []int {
	return rowWhere(l, func(int) bool { return true })
}

// setOf answers the segments of l as a set.
func setOf(l []int) map[int]bool {
	set := map[int]bool{}
	for _, seg := range l {
		set[seg] = true
	}
	return set
}

func wantPut(e api.Entry, w api.Word) api.Entry {
	return api.Entry{Digest: w.Digest, Kind: w.Kind, Size: w.Size, Loc: w.Loc, In: rowOf(append([]int{w.Loc.Seg}, e.In...)...)}
}

func wantDelete(e api.Entry, w api.Word) api.Entry {
	e.Kind, e.Size, e.Loc, e.In = 5, 0, w.Loc, rowOf(e.In...)
	return e
}

func wantTag(t api.TagEntry, w api.Word) api.TagEntry {
	return api.TagEntry{Name: w.Name, Digest: w.Digest, Loc: w.Loc, In: rowOf(append([]int{w.Loc.Seg}, t.In...)...)}
}

func wantUntag(t api.TagEntry, w api.Word) api.TagEntry {
	t.Digest, t.Gone, t.Loc, t.In = api.Digest{}, true, w.Loc, rowOf(t.In...)
	return t
}

// wantLive tells whether a record in segment seg is live of which gone tells whether it is a delete or untag.
func wantLive(gone bool, seg int, in []int) bool {
	if !gone {
		return true
	}
	for _, s := range in {
		if s != seg {
			return true
		}
	}
	return false
}

func wantKeep(e api.Entry, segs []int) (api.Entry, bool) {
	set := setOf(segs)
	in := rowWhere(e.In, func(seg int) bool { return set[seg] })
	exists := set[e.Loc.Seg]
	if len(in) == 0 && (!exists || e.Kind == 5) {
		return api.Entry{}, false
	}
	if !exists {
		e.Kind, e.Size, e.Loc = 5, 0, api.Loc{}
	}
	e.In = in
	return e, true
}

func wantKeepTag(t api.TagEntry, segs []int) (api.TagEntry, bool) {
	set := setOf(segs)
	in := rowWhere(t.In, func(seg int) bool { return set[seg] })
	exists := set[t.Loc.Seg]
	if len(in) == 0 && (!exists || t.Gone) {
		return api.TagEntry{}, false
	}
	if !exists {
		t.Digest, t.Gone, t.Loc = api.Digest{}, true, api.Loc{}
	}
	t.In = in
	return t, true
}

// sameEntry tells whether two entries are the same; nil and empty rows are.
func sameEntry(a, b api.Entry) bool {
	return a.Digest == b.Digest && a.Kind == b.Kind && a.Size == b.Size && a.Loc == b.Loc && slices.Equal(a.In, b.In)
}

func sameTag(a, b api.TagEntry) bool {
	return a.Name == b.Name && a.Digest == b.Digest && a.Gone == b.Gone && a.Loc == b.Loc && slices.Equal(a.In, b.In)
}

// Each check makes a call on rows with spare room behind them, and holds the answer against the one that is wanted and the rows against what they were.

func checkPut(t *testing.T, e api.Entry, w api.Word, want api.Entry) {
	t.Helper()
	came, stays := withSpareRoom(e.In)
	e.In = came
	if got := Put(e, w); !sameEntry(got, want) {
		t.Fatalf("Put(%v, %v) = %v, want %v", e, w, got, want)
	}
	stays(t, "Put")
}

func checkDelete(t *testing.T, e api.Entry, w api.Word, want api.Entry) {
	t.Helper()
	came, stays := withSpareRoom(e.In)
	e.In = came
	if got := Delete(e, w); !sameEntry(got, want) {
		t.Fatalf("Delete(%v, %v) = %v, want %v", e, w, got, want)
	}
	stays(t, "Delete")
}

func checkTag(t *testing.T, x api.TagEntry, w api.Word, want api.TagEntry) {
	t.Helper()
	came, stays := withSpareRoom(x.In)
	x.In = came
	if got := Tag(x, w); !sameTag(got, want) {
		t.Fatalf("Tag(%v, %v) = %v, want %v", x, w, got, want)
	}
	stays(t, "Tag")
}

func checkUntag(t *testing.T, x api.TagEntry, w api.Word, want api.TagEntry) {
	t.Helper()
	came, stays := withSpareRoom(x.In)
	x.In = came
	if got := Untag(x, w); !sameTag(got, want) {
		t.Fatalf("Untag(%v, %v) = %v, want %v", x, w, got, want)
	}
	stays(t, "Untag")
}

func checkAlive(t *testing.T, e api.Entry, want bool) {
	t.Helper()
	came, stays := withSpareRoom(e.In)
	e.In = came
	if Alive(e) != want {
		t.Fatalf("Alive(%v) is not %v", e, want)
	}
	stays(t, "Alive")
}

func checkAliveTag(t *testing.T, x api.TagEntry, want bool) {
	t.Helper()
	came, stays := withSpareRoom(x.In)
	x.In = came
	if AliveTag(x) != want {
		t.Fatalf("AliveTag(%v) is not %v", x, want)
	}
	stays(t, "AliveTag")
}

// checkKeep wants nothing to be left if want is a zero entry and left is false.
func checkKeep(t *testing.T, e api.Entry, segs []int, want api.Entry, left bool) {
	t.Helper()
	came, stays := withSpareRoom(e.In)
	e.In = came
	given, stay := withSpareRoom(segs)
	if got, ok := Keep(e, given); !sameEntry(got, want) || ok != left {
		t.Fatalf("Keep(%v, %v) = %v, %v, want %v, %v", e, segs, got, ok, want, left)
	}
	stays(t, "Keep")
	stay(t, "Keep")
}

func checkKeepTag(t *testing.T, x api.TagEntry, segs []int, want api.TagEntry, left bool) {
	t.Helper()
	came, stays := withSpareRoom(x.In)
	x.In = came
	given, stay := withSpareRoom(segs)
	if got, ok := KeepTag(x, given); !sameTag(got, want) || ok != left {
		t.Fatalf("KeepTag(%v, %v) = %v, %v, want %v, %v", x, segs, got, ok, want, left)
	}
	stays(t, "KeepTag")
	stay(t, "KeepTag")
}

// withSpareRoom answers the row l with spare room ahead of it and behind it, and a check that nothing of that has changed. The row nil stays nil.
func withSpareRoom(l []int) ([]int, func(t *testing.T, call string)) {
	if l == nil {
		return nil, func(*testing.T, string) {}
	}
	room := slices.Concat([]int{71, -72}, l, []int{93, -94, 95})
	was := slices.Clone(room)
	return room[2 : 2+len(l)], func(t *testing.T, call string) {
		t.Helper()
		if !slices.Equal(room, was) {
			t.Fatalf("%s made %v of what came in as %v", call, room, was)
		}
	}
}

// What the calls are made on.

var (
	alpha = api.Digest{0: 1, 13: 255, 31: 2}
	beta  = api.Digest{0: 1, 13: 254, 31: 2}
)

// locIn answers where a record in segment seg is.
func locIn(seg int) api.Loc { return api.Loc{Seg: seg, Off: 37, Len: 62} }

// deletedEntry answers an entry of alpha that is deleted in segment seg.
func deletedEntry(seg int, in ...int) api.Entry {
	return api.Entry{Digest: alpha, Kind: api.RecDelete, Loc: locIn(seg), In: in}
}

// presentEntry answers an entry of alpha, a manifest in segment seg.
func presentEntry(seg int, in ...int) api.Entry {
	return api.Entry{Digest: alpha, Kind: api.RecManifest, Size: 41, Loc: locIn(seg), In: in}
}

// presentTag answers an entry of the name v1, a tag in segment seg.
func presentTag(seg int, in ...int) api.TagEntry {
	return api.TagEntry{Name: "v1", Digest: alpha, Loc: locIn(seg), In: in}
}

// goneTag answers an entry of the name v1, which was untagged in segment seg.
func goneTag(seg int, in ...int) api.TagEntry {
	return api.TagEntry{Name: "v1", Gone: true, Loc: locIn(seg), In: in}
}

// lostEntry answers what is left of an entry of alpha whose latest record is lost.
func lostEntry(in ...int) api.Entry {
	return api.Entry{Digest: alpha, Kind: api.RecDelete, In: in}
}

// lostTag answers what is left of an entry of the name v1 whose latest record is lost.
func lostTag(in ...int) api.TagEntry {
	return api.TagEntry{Name: "v1", Gone: true, In: in}
}

// sortsOfRows answers rows of segments as they come, and as they are ascending and each once.
func sortsOfRows() []struct{ row, want []int } {
	const least, most = math.MinInt, math.MaxInt
	return []struct{ row, want []int }{
		{nil, nil},
		{[]int{}, nil},
		{[]int{3}, []int{3}},
		{[]int{0}, []int{0}},
		{[]int{1, 3}, []int{1, 3}},
		{[]int{3, 1}, []int{1, 3}},
		{[]int{1, 2, 3, 4, 5}, []int{1, 2, 3, 4, 5}},
		{[]int{5, 4, 3, 2, 1}, []int{1, 2, 3, 4, 5}},
		{[]int{4, 1, 5, 2, 3}, []int{1, 2, 3, 4, 5}},
		{[]int{7, 3, 9, 2}, []int{2, 3, 7, 9}},
		{[]int{3, 3}, []int{3}},
		{[]int{3, 3, 3, 3, 3, 3, 3}, []int{3}},
		{[]int{1, 1, 3}, []int{1, 3}},
		{[]int{1, 3, 3}, []int{1, 3}},
		{[]int{3, 1, 3}, []int{1, 3}},
		{[]int{1, 3, 1}, []int{1, 3}},
		{[]int{3, 1, 3, 1, 1, 3}, []int{1, 3}},
		{[]int{1, 1, 2, 2, 2, 3, 3}, []int{1, 2, 3}},
		{[]int{7, 7, 1, 7, 4, 1, 1, 4}, []int{1, 4, 7}},
		{[]int{-1, 0, 1}, []int{-1, 0, 1}},
		{[]int{1, 0, -1, 0}, []int{-1, 0, 1}},
		{[]int{-3, -1, -2, -2}, []int{-3, -2, -1}},
		{[]int{-5, 5, 3, -3}, []int{-5, -3, 3, 5}},
		{[]int{least}, []int{least}},
		{[]int{most}, []int{most}},
		{[]int{most, least}, []int{least, most}},
		{[]int{most, 0, least, most, -1, least}, []int{least, -1, 0, most}},
		{[]int{least, least + 1, most - 1, most}, []int{least, least + 1, most - 1, most}},
		{[]int{9, 10, 100, 1}, []int{1, 9, 10, 100}},
		{[]int{256, 1, 257, 0}, []int{0, 1, 256, 257}},
		{[]int{1 << 32, 1<<32 + 1, 1, 0}, []int{0, 1, 1 << 32, 1<<32 + 1}},
		{[]int{api.MaxNumber + 1, api.MaxNumber, 1}, []int{1, api.MaxNumber, api.MaxNumber + 1}},
		{[]int{20, 18, 16, 14, 12, 10, 8, 6, 4, 2, 1, 3, 5, 7, 9, 11, 13, 15, 17, 19, 2, 19}, []int{1, 2, 3, 4, 5, 6, 7, 8, 9, 10, 11, 12, 13, 14, 15, 16, 17, 18, 19, 20}},
	}
}

// nearSegments answers the segments of l, those next to them, and the ends of what there is.
func nearSegments(l []int) []int {
	out := []int{0, 1, -1, math.MinInt, math.MaxInt}
	for _, seg := range l {
		out = append(out, seg, seg-1, seg+1)
	}
	return rowOf(out...)
}

// allKinds answers those of records, and others.
func allKinds() []int {
	return []int{api.RecBlob, api.RecManifest, api.RecTag, api.RecUntag, api.RecDelete, api.RecCommit, api.RecHeader, api.RecFooter, 0, -1, -5, 9, 99, 256 + api.RecBlob, 256 + api.RecDelete, math.MinInt, math.MaxInt}
}

// kindsOfEntries answers those that leave no doubt whether an entry of a digest is deleted.
func kindsOfEntries() []int {
	return slices.DeleteFunc(allKinds(), func(kind int) bool { return kind == api.RecUntag })
}

// rowsUpTo answers all rows of up to n of the segments, in each order and with the same one several times.
func rowsUpTo(n int, segs ...int) [][]int {
	out := [][]int{nil}
	for from := 0; n > 0; n-- {
		last := out[from:]
		from = len(out)
		for _, row := range last {
			for _, seg := range segs {
				out = append(out, append(slices.Clone(row), seg))
			}
		}
	}
	return out
}

// subsets answers all rows that have some of the segments, in their order.
func subsets(segs ...int) [][]int {
	var out [][]int
	for code := range 1 << len(segs) {
		var row []int
		for i, seg := range segs {
			if code>>i&1 == 1 {
				row = append(row, seg)
			}
		}
		out = append(out, row)
	}
	return out
}
