package tags

import (
	"bytes"
	"math"
	"slices"
	"strconv"
	"testing"

	"stillage/api"
)

// What the chapter and that of entries say, written down a second time. No function of this package or of those that it calls is used for it.

// rowWhere answers the segments of l that fit, ascending and each once.
func rowWhere(l []int, fits func(seg int) bool) []int {
	found := map[int]bool{}
	var out []int
	for _, seg := range l {
		if fits(seg) && !found[seg] {
			found[seg] = true
			out = append(out, seg)
		}
	}
	slices.Sort(out)
	return out
}

func rowOf(l ...int) []int {
	return rowWhere(l, func(int) bool { return true })
}

// model has the entries that a table is to have.
type model map[string]api.TagEntry

func modelOf(l []api.TagEntry) model {
	m := model{}
	for _, e := range l {
		e.In = slices.Clone(e.In)
		m[e.Name] = e
	}
	return m
}

func (m model) apply(w api.Word) {
	e, known := m[w.Name]
	switch {
	case w.Kind == 3:
		m[w.Name] = api.TagEntry{Name: w.Name, Digest: w.Digest, Loc: w.Loc, In: rowOf(append([]int{w.Loc.Seg}, e.In...)...)}
	case w.Kind == 4 && known:
		m[w.Name] = api.TagEntry{Name: w.Name, Gone: true, Loc: w.Loc, In: rowOf(e.In...)}
	}
}

func (m model) keep(segs []int) {
	exists := map[int]bool{}
	for _, seg := range segs {
		exists[seg] = true
	}
	left := model{}
	for name, e := range m {
		e.In = rowWhere(e.In, func(seg int) bool { return exists[seg] })
		if !exists[e.Loc.Seg] {
			e.Gone, e.Digest, e.Loc = true, api.Digest{}, api.Loc{}
		}
		if !e.Gone || len(e.In) > 0 {
			left[name] = e
		}
	}
	clear(m)
	for name, e := range left {
		m[name] = e
	}
}

func (m model) row() []api.TagEntry {
	var out []api.TagEntry
	for _, e := range m {
		out = append(out, e)
	}
	slices.SortFunc(out, func(a, b api.TagEntry) int { return bytes.Compare([]byte(a.Name), []byte(b.Name)) })
	return out
}

// existing answers the entries that are not Gone.
func (m model) existing() []api.TagEntry {
	return slices.DeleteFunc(m.row(), func(e api.TagEntry) bool { return e.Gone })
}

func (m model) count() int {
	n := 0
	for _, e := range m {
		if !e.Gone {
			n++
		}
	}
	return n
}

func (m model) list(after string, n int) []string {
	var out []string
	for _, e := range m.existing() {
		if bytes.Compare([]byte(e.Name), []byte(after)) > 0 && n > 0 {
			out = append(out, e.Name)
			n--
		}
	}
	return out
}

func (m model) names() []api.Digest {
	var out []api.Digest
	for _, e := range m.existing() {
		out = append(out, e.Digest)
	}
	return out
}

// same tells whether two entries are the same; nil and empty rows are.
func same(a, b api.TagEntry) bool {
	return a.Name == b.Name && a.Digest == b.Digest && a.Gone == b.Gone && a.Loc == b.Loc && slices.Equal(a.In, b.In)
}

// pair is a table and what it is to have. Each call is made on both, with rows that have spare room around them, and Count is asked for behind each single call.
type pair struct {
	t     *testing.T
	tags  *Tags
	model model
	asked map[string]bool // those of which a call has spoken
}

// newPair answers a pair with the entries l.
func newPair(t *testing.T, l ...api.TagEntry) *pair {
	t.Helper()
	p := &pair{t: t, model: modelOf(l), asked: map[string]bool{}}
	given, stays := entriesWithRoom(l)
	p.tags = New(given)
	stays(t, "New")
	for _, e := range l {
		p.asked[e.Name] = true
	}
	p.count("New")
	return p
}

// apply does what a word says.
func (p *pair) apply(w api.Word) {
	p.t.Helper()
	p.asked[w.Name] = true
	p.model.apply(w)
	p.tags.Apply(w)
	p.count("Apply")
	p.get(w.Name)
}

// keep leaves what is in the segments.
func (p *pair) keep(segs ...int) {
	p.t.Helper()
	p.model.keep(segs)
	given, stays := withRoom(segs)
	p.tags.Keep(given)
	stays(p.t, "Keep")
	p.count("Keep")
}

// get asks for a name.
func (p *pair) get(name string) {
	p.t.Helper()
	want, known := p.model[name]
	if e, ok := p.tags.Get(name); ok != known || !same(e, want) {
		p.t.Fatalf("Get of %q = %v, %v, want %v, %v", name, e, ok, want, known)
	}
}

// count asks for Count behind a call.
func (p *pair) count(call string) {
	p.t.Helper()
	if n, want := p.tags.Count(), p.model.count(); n != want {
		p.t.Fatalf("behind %s, Count = %d, want %d", call, n, want)
	}
}

// list asks for names.
func (p *pair) list(after string, n int) []string {
	p.t.Helper()
	got, want := p.tags.List(after, n), p.model.list(after, n)
	if !slices.Equal(got, want) {
		p.t.Fatalf("List of %q, %d = %q, want %q", after, n, got, want)
	}
	return got
}

// lists asks for names behind every name of which a call has spoken, or behind some of them if there are many, and for as many as there are, for more and for fewer.
func (p *pair) lists() {
	p.t.Helper()
	afters := []string{"", "\x00", "a", "m", "\xff", "\xff\xff\xff\xff"}
	for name := range p.asked {
		if len(afters) < 30 {
			afters = append(afters, name, name+"\x00", name+"\xff")
			if name != "" {
				afters = append(afters, name[:len(name)-1])
			}
		}
	}
	all := len(p.model)
	for _, after := range afters {
		for _, n := range []int{math.MinInt, -1, 0, 1, 2, all - 1, all, all + 1, math.MaxInt} {
			p.list(after, n)
		}
	}
	if all < 50 {
		for n := 1; n < 5; n++ {
			p.pages(n)
		}
	}
}

// pages asks for pages of n names, one behind the other: each existing name is in them once.
func (p *pair) pages(n int) {
	p.t.Helper()
	var got []string
	after := ""
	for {
		page := p.list(after, n)
		if len(page) == 0 {
			break
		}
		got = append(got, page...)
		after = page[len(page)-1]
	}
	var want []string
	for _, e := range p.model.existing() {
		if e.Name != "" {
			want = append(want, e.Name)
		}
	}
	if !slices.Equal(got, want) {
		p.t.Fatalf("pages of %d: %q, want %q", n, got, want)
	}
}

// all asks for everything, which changes nothing.
func (p *pair) all() {
	p.t.Helper()
	p.row()
	for name := range p.asked {
		p.get(name)
	}
	p.get("unknown")
	p.lists()
	p.count("List")
	p.row()
	p.count("Row")
}

// row asks for all entries, and for what the existing ones name.
func (p *pair) row() {
	p.t.Helper()
	checkRow(p.t, p.tags, p.model.row()...)
	checkNames(p.t, p.tags, p.model.names()...)
}

// twin answers a pair with a table that New made from the Row of this one.
func (p *pair) twin() *pair {
	p.t.Helper()
	out := newPair(p.t, p.tags.Row()...)
	out.model = modelOf(p.model.row())
	for name := range p.asked {
		out.asked[name] = true
	}
	out.all()
	return out
}

// checkRow wants just these entries.
func checkRow(t *testing.T, x *Tags, want ...api.TagEntry) {
	t.Helper()
	if got := x.Row(); !slices.EqualFunc(got, want, same) {
		t.Fatalf("Row = %v, want %v", got, want)
	}
}

// checkNames wants just these digests.
func checkNames(t *testing.T, x *Tags, want ...api.Digest) {
	t.Helper()
	if got := x.Names(); !slices.Equal(got, want) {
		t.Fatalf("Names = %x, want %x", got, want)
	}
}

func checkCount(t *testing.T, x *Tags, want int) {
	t.Helper()
	if n := x.Count(); n != want {
		t.Fatalf("Count = %d, want %d", n, want)
	}
}

func checkList(t *testing.T, x *Tags, after string, n int, want ...string) {
	t.Helper()
	if got := x.List(after, n); !slices.Equal(got, want) {
		t.Fatalf("List of %q, %d = %q, want %q", after, n, got, want)
	}
}

// withRoom answers the row l with spare room ahead of it and behind it, and a check that nothing of that has changed. The row nil stays nil.
func withRoom(l []int) ([]int, func(t *testing.T, call string)) {
	if l == nil {
		return nil, func(*testing.T, string) {}
	}
	room := slices.Concat([]int{71, -72}, l, []int{93, -94, 95})
	was := slices.Clone(room)
	return room[2 : 2+len(l)], func(t *testing.T, call string) {
		t.Helper()
		if !slices.Equal(room, was) {
			t.Fatalf("%s made %v of what came in as %v", call, room, was)
		}
	}
}

// entriesWithRoom answers the entries of l, with spare room around them and around each In, and a check that nothing of that has changed.
func entriesWithRoom(l []api.TagEntry) ([]api.TagEntry, func(t *testing.T, call string)) {
	if l == nil {
		return nil, func(*testing.T, string) {}
	}
	other := api.TagEntry{Name: "other", Digest: api.Digest{9}, In: []int{79}}
	room := slices.Concat([]api.TagEntry{other}, l, []api.TagEntry{other, other})
	var checks []func(t *testing.T, call string)
	for i := range room {
		in, stays := withRoom(room[i].In)
		room[i].In = in
		checks = append(checks, stays)
	}
	was := slices.Clone(room)
	return room[1 : 1+len(l)], func(t *testing.T, call string) {
		t.Helper()
		if !slices.EqualFunc(room, was, same) {
			t.Fatalf("%s made %v of what came in as %v", call, room, was)
		}
		for _, stays := range checks {
			stays(t, call)
		}
	}
}

// What the calls are made on.

// sortsOfNames answers names in ascending order: the empty one, of which one begins with another, of bytes above 127, and that are no UTF-8.
func sortsOfNames() []string {
	return []string{
		"", "\x00", "\x00\x00", "\x01", " ", "0", "10", "9", "A", "V1", "a", "a\x00", "a\x00b", "aB", "aa", "aaa", "aab", "ab", "a\x7f", "a\x80", "a\xff", "a\xffa", "b",
		"v1", "v1.0", "v10", "v2", "~", "\x7f", "\x80", "\xc2", "\xc3", "\xc3\xa9", "é\x00", "éa", "ê", "\xef\xbf\xbd", "\xf0\x9f\x98\x80", "\xfe", "\xff", "\xff\x00", "\xff\xfe", "\xff\xff",
	}
}

// nth answers a name, another one for each i, with those of the same number of digits in the order of the numbers.
func nth(i int) string { return "n" + strconv.Itoa(i) }

// mixed answers a name, another one for each i, which follow no order.
func mixed(i int) string { return strconv.Itoa(i*7919%10007) + "-" + strconv.Itoa(i) }

// locIn answers where a record in segment seg is.
func locIn(seg int) api.Loc { return api.Loc{Seg: seg, Off: 37 + seg, Len: 55} }

// dig answers a digest, another one for each n up to 65535.
func dig(n int) api.Digest { return api.Digest{0: byte(n), 1: byte(n >> 8), 31: 1} }

// tag answers what the tag in segment seg says.
func tag(name string, n, seg int) api.Word {
	return api.Word{Kind: api.RecTag, Seq: 11, Name: name, Digest: dig(n), Loc: locIn(seg)}
}

// untag answers what an untag in segment seg says.
func untag(name string, seg int) api.Word {
	return api.Word{Kind: api.RecUntag, Seq: 13, Name: name, Loc: locIn(seg)}
}

// thereEntry answers the entry of a name whose latest record is a tag in segment seg.
func thereEntry(name string, n, seg int, in ...int) api.TagEntry {
	return api.TagEntry{Name: name, Digest: dig(n), Loc: locIn(seg), In: in}
}

// goneEntry answers the entry of a name whose latest record is an untag in segment seg.
func goneEntry(name string, seg int, in ...int) api.TagEntry {
	return api.TagEntry{Name: name, Gone: true, Loc: locIn(seg), In: in}
}

// lostEntry answers what is left of an entry whose latest record is lost.
func lostEntry(name string, in ...int) api.TagEntry {
	return api.TagEntry{Name: name, Gone: true, In: in}
}

// otherKinds answers those that are neither a tag nor an untag.
func otherKinds() []int {
	return []int{api.RecBlob, api.RecManifest, api.RecDelete, api.RecCommit, api.RecHeader, api.RecFooter, 0, -1, -3, -4, 9, 10, 99, 256 + api.RecTag, 256 + api.RecUntag, 1<<32 + api.RecTag, math.MinInt, math.MaxInt}
}

// sortsOfRows answers rows of segments: none, and with one, with several in order and in none, and with some of them twice.
func sortsOfRows() [][]int {
	return [][]int{
		nil, {}, {3}, {0}, {-1}, {1, 3}, {3, 1}, {3, 3}, {1, 2, 3, 4}, {4, 3, 2, 1}, {2, 4, 1, 3}, {3, 1, 3, 1, 1, 3}, {4, 4, 1, 4},
		{1, 0, -1, 0}, {math.MaxInt, 0, math.MinInt, 3, math.MaxInt}, {257, 1, 256}, {1<<32 + 1, 1}, {api.MaxNumber, 1, api.MaxNumber},
	}
}

// rowsOf answers all rows of just size numbers below n.
func rowsOf(size, n int) [][]int {
	out := [][]int{nil}
	for range size {
		var next [][]int
		for _, row := range out {
			for i := range n {
				next = append(next, append(slices.Clone(row), i))
			}
		}
		out = next
	}
	return out
}

// subsets answers all rows that have some of the segments, in their order.
func subsets(segs ...int) [][]int {
	var out [][]int
	for code := range 1 << len(segs) {
		var row []int
		for i, seg := range segs {
			if code>>i&1 == 1 {
				row = append(row, seg)
			}
		}
		out = append(out, row)
	}
	return out
}

// backwards answers l from the last one to the first.
func backwards[T any](l []T) []T {
	out := slices.Clone(l)
	slices.Reverse(out)
	return out
}

// orders answers l in several orders: as it is, backwards, from its middle on, and those at even places ahead of the others.
func orders[T any](l []T) [][]T {
	half := len(l) / 2
	var even, odd []T
	for i, v := range l {
		if i%2 == 0 {
			even = append(even, v)
		} else {
			odd = append(odd, v)
		}
	}
	return [][]T{l, backwards(l), slices.Concat(l[half:], l[:half]), slices.Concat(even, backwards(odd))}
}
