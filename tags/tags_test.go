package tags

import (
	"fmt"
	"math"
	"math/rand/v2"
	"slices"
	"strings"
	"testing"

	"stillage/api"
)

// methods are those of a table, as the chapter declares them.
type methods interface {
	Apply(w api.Word)
	Get(name string) (api.TagEntry, bool)
	Row() []api.TagEntry
	Keep(segs []int)
	Count() int
	List(after string, n int) []string
	Names() []api.Digest
}

var (
	_ func(l []api.TagEntry) *Tags = New
	_ methods                      = New(nil)
)

// P21.1, P21.2: what the chapter's examples of Row, Keep and Count say, one behind the other.
func TestExamples(t *testing.T) {
	x := New(nil)
	for i, name := range []string{"c", "a", "b", "a"} {
		x.Apply(tag(name, i, i+1))
	}
	checkRow(t, x, thereEntry("a", 3, 4, 2, 4), thereEntry("b", 2, 3, 3), thereEntry("c", 0, 1, 1))
	if e, ok := x.Get("a"); !ok || !slices.Equal(e.In, []int{2, 4}) {
		t.Errorf("Get = %v, %v", e, ok)
	}
	x.Apply(untag("a", 5))
	x.Apply(untag("unknown", 5))
	checkRow(t, x, goneEntry("a", 5, 2, 4), thereEntry("b", 2, 3, 3), thereEntry("c", 0, 1, 1))
	checkCount(t, x, 2)
	checkNames(t, x, dig(2), dig(0))
	x.Keep([]int{1, 3, 5})
	checkRow(t, x, thereEntry("b", 2, 3, 3), thereEntry("c", 0, 1, 1))
	checkCount(t, x, 2)
	if e, ok := x.Get("a"); ok || !same(e, api.TagEntry{}) {
		t.Errorf("Get = %v, %v", e, ok)
	}
}

// P21.2: what the chapter's examples of List say.
func TestExamplesOfList(t *testing.T) {
	x := New(nil)
	x.Apply(tag("b", 1, 1))
	x.Apply(tag("a", 2, 1))
	checkList(t, x, "", 1, "a")
	x.Apply(tag("c", 3, 1))
	checkList(t, x, "", 9, "a", "b", "c")
	checkList(t, x, "a", 1, "b")
}

// P21.1, P21.2: a table of no entries: nothing is there, nothing is kept, nothing can be untagged; then records come.
func TestNoEntries(t *testing.T) {
	for _, l := range [][]api.TagEntry{nil, {}} {
		p := newPair(t, l...)
		p.all()
		for _, name := range sortsOfNames() {
			p.get(name)
			p.apply(untag(name, 1))
			p.row()
		}
		p.all()
		for _, segs := range sortsOfRows() {
			p.keep(segs...)
			p.all()
		}
		checkRow(t, p.tags)
		checkCount(t, p.tags, 0)
		checkList(t, p.tags, "", 9)
		p.apply(tag("a", 5, 1))
		p.all()
		checkRow(t, p.tags, thereEntry("a", 5, 1, 1))
		checkList(t, p.tags, "", 9, "a")
	}
}

// P21.1, P21.2: a table of one entry, whichever, is just that; other names are not there.
func TestOneEntry(t *testing.T) {
	for _, name := range sortsOfNames() {
		for _, e := range []api.TagEntry{
			thereEntry(name, 5, 3, 3), thereEntry(name, 0, 3, 1, 3), goneEntry(name, 3, 1), goneEntry(name, 3), lostEntry(name, 1, 3), thereEntry(name, 5, 3),
		} {
			p := newPair(t, e)
			checkRow(t, p.tags, e)
			if got, ok := p.tags.Get(name); !ok || !same(got, e) {
				t.Fatalf("Get = %v, %v, want %v", got, ok, e)
			}
			for _, other := range sortsOfNames() {
				p.get(other)
				p.list(other, 1)
			}
			p.all()
		}
	}
}

// P21.1: each field of an entry is what came in, whatever it is.
func TestFieldsOfEntries(t *testing.T) {
	numbers := []int{0, 1, -1, 1 << 40, math.MinInt, math.MaxInt}
	for _, gone := range []bool{false, true} {
		for _, d := range []api.Digest{{}, dig(77)} {
			for _, n := range numbers {
				for _, m := range numbers {
					e := api.TagEntry{Name: "b", Digest: d, Gone: gone, Loc: api.Loc{Seg: m, Off: n, Len: m}, In: []int{n, m, n}}
					p := newPair(t, goneEntry("c", 1, 1), e)
					checkRow(t, p.tags, e, goneEntry("c", 1, 1))
					p.all()
				}
			}
		}
	}
}

// P21.1, P21.2: a table of many entries, which come in any order.
func TestManyEntries(t *testing.T) {
	for _, size := range []int{2, 3, 4, 7, 8, 9, 40, 300} {
		var l []api.TagEntry
		for i := range size {
			switch i % 4 {
			case 0:
				l = append(l, thereEntry(mixed(i), i, i%5, i%5, 7))
			case 1:
				l = append(l, thereEntry(nth(i), 2*i, 3, 3))
			case 2:
				l = append(l, goneEntry(mixed(i), 2, 1, i))
			case 3:
				l = append(l, lostEntry(nth(i), 4))
			}
		}
		for _, order := range orders(l) {
			newPair(t, order...).all()
		}
	}
}

// P21.1: of several entries of the same name, the last one counts, and of the others nothing is left.
func TestLastEntryCounts(t *testing.T) {
	x := New([]api.TagEntry{thereEntry("b", 5, 1, 1), thereEntry("c", 20, 1, 1), goneEntry("b", 2, 1, 2), thereEntry("b", 7, 3, 3), thereEntry("c", 30, 4, 4, 2), thereEntry("a", 1, 1, 1)})
	checkRow(t, x, thereEntry("a", 1, 1, 1), thereEntry("b", 7, 3, 3), thereEntry("c", 30, 4, 4, 2))
	checkCount(t, x, 3)
	checkNames(t, x, dig(1), dig(7), dig(30))
	x = New([]api.TagEntry{thereEntry("b", 7, 3, 3), goneEntry("b", 2, 1, 2)})
	checkRow(t, x, goneEntry("b", 2, 1, 2))
	checkCount(t, x, 0)
	checkNames(t, x)
	checkList(t, x, "", 9)
	x.Keep([]int{3})
	checkRow(t, x)
}

// P21.1, P21.2: all rows of up to four of eight entries of four names, then a record of one, and Keep.
func TestSmallRowsOfEntries(t *testing.T) {
	var all []api.TagEntry
	for i, name := range []string{"b", "", "ba", "a"} {
		all = append(all, thereEntry(name, i, 1, 2, 1), goneEntry(name, 3, 2))
	}
	for size := range 5 {
		for _, row := range rowsOf(size, len(all)) {
			var l []api.TagEntry
			for _, i := range row {
				l = append(l, all[i])
			}
			p := newPair(t, l...)
			p.row()
			p.list("", 2)
			p.list("a", 3)
			p.apply(tag("b", 9, 3))
			p.row()
			p.keep(2, 3)
			p.row()
			p.list("a", 3)
		}
	}
}

// P21.1: the In of an entry that came in stays as it came until a record of the name or Keep puts it in order.
func TestInAsItCame(t *testing.T) {
	for _, in := range sortsOfRows() {
		for _, e := range []api.TagEntry{thereEntry("a", 5, 3, in...), goneEntry("a", 3, in...)} {
			p := newPair(t, e, thereEntry("b", 6, 1, 2, 1, 2))
			checkRow(t, p.tags, e, thereEntry("b", 6, 1, 2, 1, 2))
			for _, w := range []api.Word{tag("a", 7, 3), tag("a", 8, 9), untag("a", 3), untag("a", 9)} {
				q := p.twin()
				q.apply(w)
				q.all()
				q.keep(3, 1, 9)
				q.all()
			}
			p.apply(tag("b", 6, 1))
			checkRow(t, p.tags, e, thereEntry("b", 6, 1, 1, 2))
			p.keep(1, 2, 3)
			p.all()
			p.keep(3, 1, 3)
			p.all()
		}
	}
}

// P21.1: from where each field of an entry comes behind a record, of an entry and a record that differ in each.
func TestFieldsOfRecords(t *testing.T) {
	for _, gone := range []bool{false, true} {
		was := api.TagEntry{Name: "v2", Digest: dig(11), Gone: gone, Loc: api.Loc{Seg: 21, Off: 22, Len: 23}, In: []int{31, 32}}
		w := api.Word{Kind: api.RecTag, Seq: 41, Digest: dig(42), Name: "v2", Size: 51, Loc: api.Loc{Seg: 61, Off: 62, Len: 63}}
		x := New([]api.TagEntry{was})
		x.Apply(w)
		checkRow(t, x, api.TagEntry{Name: "v2", Digest: dig(42), Loc: w.Loc, In: []int{31, 32, 61}})
		w.Kind, w.Loc.Seg = api.RecUntag, 71
		x.Apply(w)
		checkRow(t, x, api.TagEntry{Name: "v2", Gone: true, Loc: w.Loc, In: []int{31, 32, 61}})
		w.Kind, w.Loc.Seg = api.RecTag, 1
		x.Apply(w)
		checkRow(t, x, api.TagEntry{Name: "v2", Digest: dig(42), Loc: w.Loc, In: []int{1, 31, 32, 61}})
		x = New(nil)
		x.Apply(w)
		checkRow(t, x, api.TagEntry{Name: "v2", Digest: dig(42), Loc: w.Loc, In: []int{1}})
	}
}

// sortsOfEntries answers entries of the name b: there, gone and lost.
func sortsOfEntries() []api.TagEntry {
	return []api.TagEntry{thereEntry("b", 5, 1, 1), thereEntry("b", 7, 3, 1, 3), goneEntry("b", 2, 1), goneEntry("b", 2), lostEntry("b", 3)}
}

// P21.1: records of other kinds change nothing, whether their name is unknown, present or gone.
func TestOtherKinds(t *testing.T) {
	for _, kind := range otherKinds() {
		for _, e := range sortsOfEntries() {
			p := newPair(t, e, thereEntry("c", 3, 1, 1))
			was := p.tags.Row()
			for _, name := range []string{"b", "c", "unknown", "", "a", "bb"} {
				for _, seg := range []int{1, 2, 9} {
					p.apply(api.Word{Kind: kind, Seq: 9, Digest: dig(77), Name: name, Size: 77, Loc: locIn(seg)})
				}
				checkRow(t, p.tags, was...)
			}
			p.all()
		}
		p := newPair(t)
		p.apply(api.Word{Kind: kind, Digest: dig(77), Name: "b", Loc: locIn(1)})
		p.all()
		checkRow(t, p.tags)
	}
}

// P21.1: a tag and an untag of a name that is unknown, there, gone and lost.
func TestKinds(t *testing.T) {
	unknown := func() *Tags { return New([]api.TagEntry{thereEntry("c", 9, 1, 1)}) }
	x := unknown()
	x.Apply(untag("b", 4))
	checkRow(t, x, thereEntry("c", 9, 1, 1))
	checkCount(t, x, 1)
	x.Apply(tag("b", 6, 4))
	checkRow(t, x, thereEntry("b", 6, 4, 4), thereEntry("c", 9, 1, 1))
	checkCount(t, x, 2)
	x = unknown()
	x.Apply(tag("d", 6, 4))
	checkRow(t, x, thereEntry("c", 9, 1, 1), thereEntry("d", 6, 4, 4))
	for i, e := range sortsOfEntries() {
		in := [][]int{{1, 4}, {1, 3, 4}, {1, 4}, {4}, {3, 4}}[i]
		x = New([]api.TagEntry{e})
		x.Apply(tag("b", 6, 4))
		checkRow(t, x, thereEntry("b", 6, 4, in...))
		checkCount(t, x, 1)
		x.Apply(tag("b", 8, 4))
		checkRow(t, x, thereEntry("b", 8, 4, in...))
		checkCount(t, x, 1)
		x = New([]api.TagEntry{e})
		x.Apply(untag("b", 4))
		checkRow(t, x, goneEntry("b", 4, e.In...))
		checkCount(t, x, 0)
		x.Apply(untag("b", 5))
		checkRow(t, x, goneEntry("b", 5, e.In...))
		checkCount(t, x, 0)
	}
}

// P21.1: an untag of an unknown name leaves nothing behind, so that the name is tagged as if there had been none.
func TestUntagOfUnknown(t *testing.T) {
	for _, name := range []string{"", "a", "n1a", "n3", "\xff"} {
		p := newPair(t, thereEntry(nth(1), 5, 1, 1), goneEntry(nth(2), 2, 1))
		for range 3 {
			p.apply(untag(name, 4))
			p.all()
		}
		p.apply(tag(name, 6, 5))
		p.all()
		if e, ok := p.tags.Get(name); !ok || !same(e, thereEntry(name, 6, 5, 5)) {
			t.Errorf("Get = %v, %v", e, ok)
		}
		// What Keep has removed is unknown again.
		p.keep(1, 2)
		p.apply(untag(name, 4))
		p.all()
		if e, ok := p.tags.Get(name); ok {
			t.Errorf("Get = %v", e)
		}
	}
}

// P21.1, P21.2: names byte by byte, whichever they are, in each order of records: each has an entry of its own.
func TestNamesOfAllSorts(t *testing.T) {
	names := sortsOfNames()
	for _, order := range append(orders(names), orders(names[1:])...) {
		p := newPair(t)
		for i, name := range order {
			p.apply(tag(name, i, i%3))
			p.get(order[(i+1)%len(order)])
			p.row()
		}
		p.all()
		for i, name := range order {
			if i%2 == 0 {
				p.apply(untag(name, 3))
				p.get(order[(i+1)%len(order)])
			}
		}
		p.all()
		p.keep(1, 3)
		p.all()
		p.keep(1)
		p.all()
	}
	p := newPair(t)
	for i, name := range backwards(names) {
		p.apply(tag(name, i, 1))
	}
	row := p.tags.Row()
	for i, name := range names {
		if row[i].Name != name {
			t.Fatalf("Row = %q at %d, want %q", row[i].Name, i, name)
		}
		checkList(t, p.tags, name, len(names), names[i+1:]...)
		checkList(t, p.tags, name, 1, names[i+1:min(i+2, len(names))]...)
	}
}

// P21.1: names that differ in one byte only, or in their length: each has an entry of its own.
func TestOneByte(t *testing.T) {
	for _, base := range []string{"", "a", "stable", strings.Repeat("x", 300)} {
		all := []string{base}
		for i := range base {
			for _, change := range []byte{1, 32, 128, 255} {
				b := []byte(base)
				b[i] ^= change
				all = append(all, string(b))
			}
			if len(base) < 10 {
				all = append(all, base[:i])
			}
		}
		for b := range 256 {
			all = append(all, base+string([]byte{byte(b)}))
		}
		p := newPair(t)
		for i, name := range all {
			p.apply(tag(name, i, i%3))
			p.get(all[(i+1)%len(all)])
		}
		p.row()
		for i, name := range all {
			if i%2 == 0 {
				p.apply(untag(name, 1))
				p.get(all[(i+1)%len(all)])
			}
		}
		p.row()
		p.list("", 1000)
		p.keep(1, 2)
		p.row()
	}
}

// P21.1: the entry of the empty name is one as any other, which no List has, since no name is less.
func TestEmptyName(t *testing.T) {
	p := newPair(t)
	p.apply(tag("", 1, 1))
	checkRow(t, p.tags, thereEntry("", 1, 1, 1))
	checkCount(t, p.tags, 1)
	checkNames(t, p.tags, dig(1))
	checkList(t, p.tags, "", 9)
	p.all()
	p.apply(tag("a", 2, 1))
	checkList(t, p.tags, "", 9, "a")
	checkNames(t, p.tags, dig(1), dig(2))
	p.all()
	p.apply(untag("", 2))
	checkRow(t, p.tags, goneEntry("", 2, 1), thereEntry("a", 2, 1, 1))
	checkCount(t, p.tags, 1)
	p.all()
	p.keep(2)
	checkRow(t, p.tags)
	p.all()
}

// P21.1: Row is ascending, in whichever order the records come, and has each name once.
func TestRow(t *testing.T) {
	for _, size := range []int{0, 1, 2, 3, 7, 8, 9, 13, 100, 400} {
		var l []string
		for i := range size {
			l = append(l, []string{mixed(i), nth(i)}[i%2])
		}
		slices.Sort(l)
		for _, order := range orders(l) {
			p := newPair(t)
			for i, name := range order {
				p.apply(tag(name, i, 1))
				p.apply(tag(order[i/2], i, 2))
				if size <= 13 {
					p.row()
				}
			}
			p.row()
			row := p.tags.Row()
			for i, name := range l {
				if len(row) != size || row[i].Name != name {
					t.Fatalf("Row = %v", row)
				}
			}
		}
	}
}

// four are a table's entries for Keep: there, gone and lost.
func four() []api.TagEntry {
	return []api.TagEntry{
		thereEntry(nth(1), 5, 1, 1),
		thereEntry(nth(2), 7, 3, 2, 3),
		goneEntry(nth(3), 3, 1, 2),
		lostEntry(nth(4), 2),
	}
}

// P21.2: what Keep of no segment, of some, of all and of others leaves.
func TestKeep(t *testing.T) {
	all := four()
	for _, c := range []struct {
		segs []int
		want []api.TagEntry
	}{
		{nil, nil},
		{[]int{}, nil},
		{[]int{4}, nil},
		{[]int{0, -1, 4, 99}, nil},
		{[]int{257, 258, 1<<32 + 1, -2, -3}, nil},
		{[]int{1}, []api.TagEntry{all[0], lostEntry(nth(3), 1)}},
		{[]int{2}, []api.TagEntry{lostEntry(nth(2), 2), lostEntry(nth(3), 2), all[3]}},
		{[]int{3}, []api.TagEntry{thereEntry(nth(2), 7, 3, 3)}},
		{[]int{1, 2}, []api.TagEntry{all[0], lostEntry(nth(2), 2), lostEntry(nth(3), 1, 2), all[3]}},
		{[]int{2, 1}, []api.TagEntry{all[0], lostEntry(nth(2), 2), lostEntry(nth(3), 1, 2), all[3]}},
		{[]int{1, 3}, []api.TagEntry{all[0], thereEntry(nth(2), 7, 3, 3), goneEntry(nth(3), 3, 1)}},
		{[]int{3, 1, 3, 1, 1}, []api.TagEntry{all[0], thereEntry(nth(2), 7, 3, 3), goneEntry(nth(3), 3, 1)}},
		{[]int{2, 3}, []api.TagEntry{all[1], goneEntry(nth(3), 3, 2), all[3]}},
		{[]int{1, 2, 3}, all},
		{[]int{3, 1, 2}, all},
		{[]int{9, 3, 0, 2, 2, 1, -5, 3}, all},
	} {
		p := newPair(t, all...)
		p.keep(c.segs...)
		checkRow(t, p.tags, c.want...)
		p.all()
		p.keep(c.segs...)
		checkRow(t, p.tags, c.want...)
		p.all()
	}
}

// P21.2: a name whose latest record was lost counts as gone: it does not exist, and a later record replaces it.
func TestLost(t *testing.T) {
	x := New([]api.TagEntry{thereEntry("a", 7, 3, 2, 3), thereEntry("b", 5, 2, 2)})
	checkCount(t, x, 2)
	x.Keep([]int{2})
	checkRow(t, x, lostEntry("a", 2), thereEntry("b", 5, 2, 2))
	checkCount(t, x, 1)
	checkList(t, x, "", 9, "b")
	checkNames(t, x, dig(5))
	if e, ok := x.Get("a"); !ok || !same(e, lostEntry("a", 2)) {
		t.Errorf("Get = %v, %v", e, ok)
	}
	x.Apply(tag("a", 9, 1))
	checkRow(t, x, thereEntry("a", 9, 1, 1, 2), thereEntry("b", 5, 2, 2))
	checkCount(t, x, 2)
	checkList(t, x, "", 9, "a", "b")
	x.Keep([]int{2})
	x.Apply(untag("a", 4))
	checkRow(t, x, goneEntry("a", 4, 2), thereEntry("b", 5, 2, 2))
	checkCount(t, x, 1)
	x.Keep([]int{4})
	checkRow(t, x)
	checkCount(t, x, 0)
}

// P21.2: an entry is kept with no segment left in its In if its latest record is there and is no untag.
func TestKeepWithoutIn(t *testing.T) {
	p := newPair(t, thereEntry(nth(1), 5, 3), thereEntry(nth(2), 6, 3, 1), goneEntry(nth(3), 3), goneEntry(nth(4), 3, 1), thereEntry(nth(5), 7, 2))
	p.keep(3)
	checkRow(t, p.tags, thereEntry(nth(1), 5, 3), thereEntry(nth(2), 6, 3))
	checkCount(t, p.tags, 2)
	p.all()
	p.keep()
	checkRow(t, p.tags)
	p.all()
}

// P21.2: each subset of the segments, and then each subset of those; entries of all sorts.
func TestKeepSubsets(t *testing.T) {
	var l []api.TagEntry
	for i, in := range subsets(0, 1, 2, 3) {
		for seg := range 5 {
			l = append(l, thereEntry(nth(10*i+seg), 1+i, seg, in...), goneEntry(mixed(10*i+seg), seg, in...))
		}
	}
	for _, more := range subsets(0, 1, 2, 3, 4) {
		for _, fewer := range subsets(more...) {
			p := newPair(t, l...)
			p.keep(more...)
			p.row()
			p.list("", math.MaxInt)
			p.keep(append(backwards(fewer), fewer...)...)
			p.row()
			p.list("n", 3)
			once := newPair(t, l...)
			once.keep(fewer...)
			checkRow(t, p.tags, once.tags.Row()...)
		}
	}
}

// P21.2: In and segments of all sorts.
func TestKeepOfRows(t *testing.T) {
	for _, in := range sortsOfRows() {
		for _, segs := range sortsOfRows() {
			for _, seg := range []int{0, 1, 3, -1, math.MaxInt, 77} {
				p := newPair(t, thereEntry(nth(1), 5, seg, in...), goneEntry(nth(2), seg, in...), lostEntry(nth(3), in...))
				p.keep(segs...)
				p.row()
				p.keep(append(slices.Clone(segs), in...)...)
				p.row()
			}
		}
	}
}

// P21.1, P21.2: records behind Keep, of what was kept, of what was lost and of what was removed.
func TestRecordsBehindKeep(t *testing.T) {
	for _, segs := range subsets(1, 2, 3) {
		for seg := 1; seg < 5; seg++ {
			for i := range 6 {
				for _, w := range []api.Word{tag(nth(i), 9, seg), untag(nth(i), seg)} {
					p := newPair(t, four()...)
					p.keep(segs...)
					p.apply(w)
					p.all()
					p.keep(seg)
					p.all()
					p.apply(w)
					p.all()
				}
			}
		}
	}
}

// P21.1, P21.2: a table made behind Keep of another one has nothing of that.
func TestNewBehindKeep(t *testing.T) {
	p := newPair(t, four()...)
	p.keep(1)
	q := newPair(t, four()...)
	q.all()
	q.keep(3)
	p.all()
	newPair(t).all()
	newPair(t, p.tags.Row()...).all()
	q.all()
}

// P21.2: Count behind each of the calls.
func TestCount(t *testing.T) {
	x := New(nil)
	for _, c := range []struct {
		do   func()
		want int
	}{
		{func() {}, 0},
		{func() { x.Apply(tag("b", 5, 1)) }, 1},
		{func() { x.Apply(tag("a", 5, 1)) }, 2},
		{func() { x.Apply(tag("c", 7, 2)) }, 3},
		{func() { x.Apply(tag("c", 8, 3)) }, 3},
		{func() { x.Apply(untag("d", 3)) }, 3},
		{func() { x.Apply(api.Word{Kind: api.RecBlob, Digest: dig(8), Name: "e"}) }, 3},
		{func() { x.Apply(api.Word{Kind: api.RecCommit, Name: "a"}) }, 3},
		{func() { x.Apply(untag("a", 3)) }, 2},
		{func() { x.Apply(untag("c", 4)) }, 1},
		{func() { x.Apply(untag("c", 4)) }, 1},
		{func() { x.Apply(tag("c", 7, 5)) }, 2},
		{func() { x.Keep([]int{1, 2, 3, 4, 5}) }, 2},
		{func() { x.Keep([]int{1, 2, 3, 4}) }, 1},
		{func() { x.Apply(tag("c", 7, 4)) }, 2},
		{func() { x.Keep([]int{4}) }, 1},
		{func() { x.Get("c"); x.Get("b"); x.Row(); x.List("", 9); x.Names() }, 1},
		{func() { x.Keep(nil) }, 0},
		{func() { x.Apply(untag("c", 6)) }, 0},
		{func() { x.Apply(tag("c", 8, 6)) }, 1},
		{func() { x = New(append(x.Row(), thereEntry("a", 30, 6, 6), goneEntry("e", 6, 6))) }, 2},
		{func() { x = New(append(x.Row(), goneEntry("c", 6, 6))) }, 1},
		{func() {
			x = New([]api.TagEntry{thereEntry("a", 1, 1), thereEntry("a", 2, 1), thereEntry("a", 4, 1)})
		}, 1},
	} {
		c.do()
		checkCount(t, x, c.want)
		checkCount(t, x, c.want)
	}
}

// P21.2: List behind names that are there, gone and unknown, for fewer names than there are, for as many and for more.
func TestList(t *testing.T) {
	x := New([]api.TagEntry{thereEntry("d", 1, 1, 1), goneEntry("c", 1, 1), thereEntry("b", 2, 1, 1), thereEntry("f", 3, 1, 1), goneEntry("a", 1, 1), goneEntry("g", 1, 1), lostEntry("e", 1)})
	for _, c := range []struct {
		after string
		want  []string
	}{
		{"", []string{"b", "d", "f"}},
		{"Z", []string{"b", "d", "f"}},
		{"a", []string{"b", "d", "f"}},
		{"a\xff", []string{"b", "d", "f"}},
		{"b", []string{"d", "f"}},
		{"b\x00", []string{"d", "f"}},
		{"c", []string{"d", "f"}},
		{"cc", []string{"d", "f"}},
		{"d", []string{"f"}},
		{"e", []string{"f"}},
		{"eee", []string{"f"}},
		{"f", nil},
		{"f\x00", nil},
		{"g", nil},
		{"h", nil},
		{"\xff", nil},
	} {
		for n := -2; n < 6; n++ {
			checkList(t, x, c.after, n, c.want[:max(0, min(n, len(c.want)))]...)
		}
		checkList(t, x, c.after, math.MaxInt, c.want...)
		checkList(t, x, c.after, math.MinInt)
	}
}

// P21.2: pages one behind the other have each existing name once, in their order, of few names and of many.
func TestPages(t *testing.T) {
	for size := range 40 {
		p := newPair(t)
		for i := range size {
			p.apply(tag(mixed(i), i, 1))
			if i%3 == 1 {
				p.apply(untag(mixed(i/2), 2))
			}
		}
		for n := 1; n < size+3; n++ {
			p.pages(n)
		}
	}
}

// P21.2: Names answers the digest of each existing name in the order of the names, also if several names have the same one.
func TestNames(t *testing.T) {
	x := New([]api.TagEntry{thereEntry("c", 1, 1, 1), thereEntry("a", 3, 1, 1), thereEntry("e", 1, 1, 1), {Name: "d", Digest: dig(9), Gone: true, In: []int{1}}, thereEntry("b", 2, 1, 1)})
	checkNames(t, x, dig(3), dig(2), dig(1), dig(1))
	x.Apply(tag("f", 3, 2))
	checkNames(t, x, dig(3), dig(2), dig(1), dig(1), dig(3))
	x.Apply(tag("b", 1, 2))
	checkNames(t, x, dig(3), dig(1), dig(1), dig(1), dig(3))
	x.Apply(untag("c", 2))
	checkNames(t, x, dig(3), dig(1), dig(1), dig(3))
	x.Apply(api.Word{Kind: api.RecTag, Name: "d", Loc: locIn(2)})
	checkNames(t, x, dig(3), dig(1), api.Digest{}, dig(1), dig(3))
	x.Keep([]int{2})
	checkNames(t, x, dig(1), api.Digest{}, dig(3))
	x.Keep(nil)
	checkNames(t, x)
}

// P21.1, P21.2: a table made from the Row of another one answers all calls as that one does.
func TestFromRow(t *testing.T) {
	random := rand.New(rand.NewPCG(21, 1))
	for size := range 50 {
		p := newPair(t)
		for range 2 * size {
			p.drawn(random, size, 6)
		}
		q := p.twin()
		for range 40 {
			seed := random.Uint64()
			p.drawn(rand.New(rand.NewPCG(21, seed)), size+2, 6)
			q.drawn(rand.New(rand.NewPCG(21, seed)), size+2, 6)
			checkRow(t, q.tags, p.tags.Row()...)
		}
		p.all()
		q.all()
	}
}

// drawn makes a drawn call on one of about so many names and of so many segments.
func (p *pair) drawn(random *rand.Rand, names, segs int) {
	p.t.Helper()
	i, seg := random.IntN(names+1), random.IntN(segs)
	name := []string{mixed(i), nth(i)}[i%2]
	switch draw := random.IntN(24); {
	case draw < 9:
		p.apply(tag(name, random.IntN(100), seg))
	case draw < 15:
		p.apply(untag(name, seg))
	case draw < 16:
		kinds := otherKinds()
		p.apply(api.Word{Kind: kinds[random.IntN(len(kinds))], Digest: dig(3), Name: name, Size: 3, Loc: locIn(seg)})
	case draw < 18:
		p.get(name)
	case draw < 22:
		p.list(name[:random.IntN(len(name)+1)], random.IntN(names+2)-1)
	default:
		var l []int
		for s := range segs {
			if random.IntN(8) > 0 {
				l = append(l, s)
			}
		}
		random.Shuffle(len(l), func(i, j int) { l[i], l[j] = l[j], l[i] })
		p.keep(l...)
	}
}

// P21.1, P21.2: long drawn rows of calls on tables of few names and of many.
func TestLongRowsOfCalls(t *testing.T) {
	random := rand.New(rand.NewPCG(21, 61))
	for range 120 {
		names, segs := 1+random.IntN(1<<random.IntN(8)), 1+random.IntN(1<<random.IntN(6))
		p := newPair(t)
		for n := range 500 {
			p.drawn(random, names, segs)
			if n%60 == 0 {
				p.row()
			}
			if n%200 == 199 {
				p = p.twin()
			}
		}
		p.all()
	}
}

// P21.1, P21.2: all rows of up to four of fifteen calls, on two names and three segments.
func TestShortRowsOfCalls(t *testing.T) {
	var calls []func(p *pair)
	for seg := 1; seg <= 3; seg++ {
		for _, w := range []api.Word{tag("b", seg, seg), untag("b", seg), tag("a", 7, seg), untag("a", seg)} {
			calls = append(calls, func(p *pair) { p.apply(w) })
		}
		others := slices.DeleteFunc([]int{3, 1, 2}, func(n int) bool { return n == seg })
		calls = append(calls, func(p *pair) { p.keep(others...) })
	}
	for size := range 5 {
		for _, row := range rowsOf(size, len(calls)) {
			p := newPair(t)
			for _, i := range row {
				calls[i](p)
			}
			p.row()
			p.get("a")
			p.get("b")
			p.list("", 2)
			p.list("a", 1)
		}
	}
}

// P21.1, P21.2: thousands of names, in several orders; they are written, written again, untagged, and go with their segments.
func TestThousands(t *testing.T) {
	const size = 3000
	x, m := New(nil), model{}
	do := func(w api.Word) {
		x.Apply(w)
		m.apply(w)
	}
	check := func() {
		t.Helper()
		checkRow(t, x, m.row()...)
		checkNames(t, x, m.names()...)
		checkCount(t, x, m.count())
		checkList(t, x, "5", math.MaxInt, m.list("5", math.MaxInt)...)
		for i := range size {
			want, known := m[mixed(i)]
			if e, ok := x.Get(mixed(i)); ok != known || !same(e, want) {
				t.Fatalf("Get = %v, %v, want %v, %v", e, ok, want, known)
			}
		}
	}
	for i := range size {
		do(tag(mixed(i), i, 1+i*8/size))
		if i%3 == 0 {
			do(untag(mixed(i/2), 9))
		}
		if i%5 == 0 {
			do(tag(mixed(i/5*4), 7, 10))
		}
	}
	check()
	for _, segs := range [][]int{{1, 2, 3, 4, 5, 6, 7, 8, 9, 10}, {2, 4, 6, 8, 9, 10}, {10, 8, 8, 4}, {8}, {9}} {
		x.Keep(segs)
		m.keep(segs)
		check()
	}
	for i := range size {
		do(tag(mixed(i), 1, 3))
	}
	check()
	y := New(x.Row())
	checkRow(t, y, x.Row()...)
	checkCount(t, y, size)
}

// P21.1, P21.2: numbers such as no record has are taken as they are.
func TestWrongNumbers(t *testing.T) {
	numbers := []int{0, -1, -99, 1 << 40, math.MinInt, math.MaxInt}
	for _, n := range numbers {
		for _, m := range numbers {
			p := newPair(t, thereEntry(nth(1), 5, 1, 1), goneEntry(nth(2), n, m, n, m))
			for _, w := range []api.Word{
				{Kind: api.RecTag, Seq: math.MaxUint64, Digest: dig(3), Name: "V 1", Size: n, Loc: api.Loc{Seg: m, Off: n, Len: m}},
				{Kind: api.RecTag, Name: nth(2), Size: n, Loc: api.Loc{Seg: m, Off: m, Len: n}},
				{Kind: api.RecUntag, Digest: dig(1), Name: nth(1), Size: n, Loc: api.Loc{Seg: n, Off: m, Len: m}},
			} {
				p.apply(w)
				p.all()
			}
			p.keep(n, 1)
			p.all()
			p.keep(m)
			p.all()
			p.keep(7)
			p.all()
		}
	}
}

// P21.1, P21.2: a table of zero entries and records of zero values.
func TestZeros(t *testing.T) {
	p := newPair(t, api.TagEntry{})
	checkRow(t, p.tags, api.TagEntry{})
	checkCount(t, p.tags, 1)
	p.all()
	p.apply(api.Word{})
	p.all()
	p.apply(api.Word{Kind: api.RecUntag})
	checkRow(t, p.tags, api.TagEntry{Gone: true})
	p.all()
	p.apply(api.Word{Kind: api.RecTag})
	checkRow(t, p.tags, api.TagEntry{In: []int{0}})
	p.keep(0)
	checkRow(t, p.tags, api.TagEntry{In: []int{0}})
	p.all()
	p.keep(1)
	checkRow(t, p.tags)
	p.all()
}

// P21.3: the methods of a nil table do nothing and answer zero values.
func TestNil(t *testing.T) {
	var x *Tags
	check := func() {
		t.Helper()
		for _, name := range sortsOfNames() {
			if e, ok := x.Get(name); ok || !same(e, api.TagEntry{}) {
				t.Fatalf("Get = %v, %v", e, ok)
			}
			for _, n := range []int{math.MinInt, -1, 0, 1, 9, math.MaxInt} {
				checkList(t, x, name, n)
			}
		}
		checkRow(t, x)
		checkNames(t, x)
		checkCount(t, x, 0)
		if x != nil {
			t.Fatal("it is a table now")
		}
	}
	check()
	for _, kind := range append(otherKinds(), api.RecTag, api.RecUntag) {
		for _, name := range []string{"", "a", "\xff"} {
			x.Apply(api.Word{Kind: kind, Digest: dig(1), Name: name, Loc: locIn(1)})
			check()
		}
	}
	for _, segs := range sortsOfRows() {
		given, stays := withRoom(segs)
		x.Keep(given)
		stays(t, "Keep")
		check()
	}
}

// R3: a table keeps no memory that came in: whatever becomes of it, the table stays.
func TestNothingIsKept(t *testing.T) {
	for _, in := range sortsOfRows() {
		l := []api.TagEntry{thereEntry(nth(2), 5, 3, slices.Clone(in)...), goneEntry(nth(1), 3, slices.Clone(in)...), thereEntry(nth(4), 5, 3, slices.Clone(in)...)}
		p := newPair(t)
		p.tags, p.model = New(l), modelOf(l)
		for i := range l {
			for j := range l[i].In {
				l[i].In[j] += 1000
			}
			_ = append(l[i].In[:0], 5)
			l[i] = thereEntry(nth(3), 9, 9, 9)
		}
		p.all()
		segs := append(slices.Clone(in), 3)
		p.tags.Keep(segs)
		p.model.keep(slices.Clone(segs))
		for i := range segs {
			segs[i] = -7
		}
		p.all()
		p.apply(tag(nth(1), 6, 4))
		p.all()
	}
}

// R3: what the methods answer is new memory: whatever is done to it, the table and the other answers stay as they were.
func TestAnswersAreNew(t *testing.T) {
	for _, in := range sortsOfRows() {
		p := newPair(t, thereEntry(nth(1), 5, 3, in...), thereEntry(nth(2), 6, 1, in...), goneEntry(nth(3), 3, in...))
		p.apply(tag(nth(4), 7, 3))
		p.apply(tag(nth(4), 7, 1))
		for range 2 {
			row := p.tags.Row()
			one, _ := p.tags.Get(nth(1))
			four, _ := p.tags.Get(nth(4))
			for _, e := range append(row, one, four) {
				in := append(e.In, -5, -5, -5)
				for i := range in {
					in[i] = -7
				}
				for i := range e.In {
					e.In[i] = -8
				}
			}
			clear(row)
			clear(p.tags.Names())
			clear(p.tags.List("", 9))
			p.all()
			p.keep(3, 1, 0)
			p.all()
		}
	}
}

// R3: no two rows of segments of one answer share memory.
func TestRowsOfOneAnswer(t *testing.T) {
	in := append(make([]int, 0, 9), 1, 3)
	x := New([]api.TagEntry{{Name: "a", In: in}, {Name: "b", In: in}, {Name: "c", In: in[:1]}})
	for range 2 {
		l := x.Row()
		for i := range l {
			was := l[i]
			was.In = slices.Clone(was.In)
			for j := range l {
				if j != i {
					clear(l[j].In)
					_ = append(l[j].In, 8, 8)
				}
			}
			if !same(l[i], was) {
				t.Fatalf("%v became %v", was, l[i])
			}
			l = x.Row()
		}
		x.Keep([]int{3, 1, 0})
	}
}

// R3: what the methods answered stays as it was, whatever is called then.
func TestAnswersStay(t *testing.T) {
	p := newPair(t, four()...)
	p.apply(tag(nth(5), 5, 2))
	var was []string
	var texts []func() string
	ask := func(call string) {
		row, names, list := p.tags.Row(), p.tags.Names(), p.tags.List("", 100)
		for name := range p.asked {
			if e, ok := p.tags.Get(name); ok {
				row = append(row, e)
			}
		}
		text := func() string { return fmt.Sprint(row, names, list) }
		was, texts = append(was, text()), append(texts, text)
		for i := range was {
			if got := texts[i](); got != was[i] {
				t.Fatalf("behind %s, an answer became %s, it was %s", call, got, was[i])
			}
		}
	}
	ask("New")
	for i := range 7 {
		for seg := range 4 {
			for _, w := range []api.Word{tag(nth(i), 5, seg), untag(nth(i), seg), tag(mixed(i), 6, 3-seg)} {
				p.apply(w)
				ask(fmt.Sprintf("Apply of %v", w))
			}
		}
	}
	for _, segs := range [][]int{{3, 2, 1, 0}, {0, 2, 3}, {3, 2}, {2, 3, 3}, {2}, nil} {
		p.keep(segs...)
		ask(fmt.Sprintf("Keep of %v", segs))
	}
	for i := range 20 {
		p.apply(tag(nth(i), 1, 1))
		ask("the last calls")
	}
}

// R4: tables on which the same calls are made answer the same; so do those that were made of the same entries in another order, and those whose records of different names came in another order.
func TestSameCalls(t *testing.T) {
	var l []api.TagEntry
	var words []api.Word
	for i := range 200 {
		l = append(l, thereEntry(mixed(i), i, i%4, i%4, 2))
		words = append(words, tag(nth(i), i, i%3), untag(mixed(i), 3))
	}
	first := New(l)
	for _, w := range words {
		first.Apply(w)
	}
	first.Keep([]int{1, 2, 3})
	for _, entries := range append(orders(l), orders(l)...) {
		for _, order := range orders(words) {
			x := New(entries)
			for _, w := range order {
				x.Apply(w)
			}
			x.Keep([]int{3, 1, 2, 1})
			checkRow(t, x, first.Row()...)
			checkNames(t, x, first.Names()...)
			checkList(t, x, "n5", 20, first.List("n5", 20)...)
			checkCount(t, x, first.Count())
		}
	}
}

// R4: two tables side by side do not meddle with each other, also if they were made of the same entries.
func TestTwoTables(t *testing.T) {
	l := four()
	p, q := newPair(t), newPair(t)
	p.tags, p.model = New(l), modelOf(l)
	q.tags, q.model = New(l), modelOf(l)
	for i := range 6 {
		p.apply(tag(nth(i), 9, 4))
		q.all()
		q.apply(untag(nth(i), 2))
		p.all()
		q.apply(tag(mixed(i), 3, 2))
		p.all()
	}
	p.keep(4, 1)
	q.all()
	q.keep(2, 3)
	p.all()
	q.keep()
	p.all()
	q.apply(tag(nth(1), 1, 1))
	p.all()
	q.all()
}

// R1: long names, and entries of thousands of segments: each call comes to its end.
func TestLong(t *testing.T) {
	p := newPair(t)
	for i := range 30 {
		p.apply(tag(strings.Repeat("x", 1000*(i*7%30)), i, i%3))
	}
	p.all()
	p.keep(2, 0)
	p.all()
	x := New(nil)
	var want []int
	for seg := range 3000 {
		x.Apply(tag("a", 1, seg*7%3000))
		want = append(want, seg)
	}
	checkRow(t, x, thereEntry("a", 1, 2999*7%3000, want...))
	x.Keep(backwards(want))
	checkRow(t, x, thereEntry("a", 1, 2999*7%3000, want...))
	x.Keep(want[:100])
	checkRow(t, x, lostEntry("a", want[:100]...))
}
