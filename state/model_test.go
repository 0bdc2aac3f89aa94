package state

import (
	"bytes"
	"math"
	"slices"
	"strconv"
	"testing"

	"stillage/api"
)

// What the chapter and those of entries, of the index and of the tags say, written down a second time. No function of this package or of those that it calls is used for it.

// model has what a state is to have.
type model struct {
	digests map[api.Digest]api.Entry
	names   map[string]api.TagEntry
	all     map[int]int
}

func modelOf(s api.Snapshot) *model {
	m := &model{map[api.Digest]api.Entry{}, map[string]api.TagEntry{}, map[int]int{}}
	for _, e := range s.Digests {
		e.In = slices.Clone(e.In)
		m.digests[e.Digest] = e
	}
	for _, e := range s.Tags {
		e.In = slices.Clone(e.In)
		m.names[e.Name] = e
	}
	for _, load := range s.Loads {
		m.all[load.Seg] = load.All
	}
	return m
}

func (m *model) apply(w api.Word) {
	e, knownDigest := m.digests[w.Digest]
	n, knownName := m.names[w.Name]
	switch w.Kind {
	case 1, 2:
		m.digests[w.Digest] = api.Entry{Digest: w.Digest, Kind: w.Kind, Size: w.Size, Loc: w.Loc, In: rowOf(append([]int{w.Loc.Seg}, e.In...)...)}
	case 3:
		m.names[w.Name] = api.TagEntry{Name: w.Name, Digest: w.Digest, Loc: w.Loc, In: rowOf(append([]int{w.Loc.Seg}, n.In...)...)}
	case 4:
		if knownName {
			m.names[w.Name] = api.TagEntry{Name: w.Name, Gone: true, Loc: w.Loc, In: rowOf(n.In...)}
		}
	case 5:
		if knownDigest {
			m.digests[w.Digest] = api.Entry{Digest: w.Digest, Kind: 5, Loc: w.Loc, In: rowOf(e.In...)}
		}
	default:
		return
	}
	m.all[w.Loc.Seg] += w.Loc.Len
}

func (m *model) keep(segs []int) {
	exists := func(seg int) bool { return slices.Contains(segs, seg) }
	was := *m
	*m = *modelOf(api.Snapshot{})
	for d, e := range was.digests {
		e.In = rowWhere(e.In, exists)
		if !exists(e.Loc.Seg) {
			e.Kind, e.Size, e.Loc = 5, 0, api.Loc{}
		}
		if e.Kind != 5 || len(e.In) > 0 {
			m.digests[d] = e
		}
	}
	for name, e := range was.names {
		e.In = rowWhere(e.In, exists)
		if !exists(e.Loc.Seg) {
			e.Gone, e.Digest, e.Loc = true, api.Digest{}, api.Loc{}
		}
		if !e.Gone || len(e.In) > 0 {
			m.names[name] = e
		}
	}
	for seg, size := range was.all {
		if exists(seg) {
			m.all[seg] = size
		}
	}
}

// row answers the entries of digests in their order.
func (m *model) row() []api.Entry {
	var out []api.Entry
	for _, e := range m.digests {
		out = append(out, e)
	}
	slices.SortFunc(out, func(a, b api.Entry) int { return bytes.Compare(a.Digest[:], b.Digest[:]) })
	return out
}

// tags answers the entries of names in their order.
func (m *model) tags() []api.TagEntry {
	var out []api.TagEntry
	for _, e := range m.names {
		out = append(out, e)
	}
	slices.SortFunc(out, func(a, b api.TagEntry) int { return bytes.Compare([]byte(a.Name), []byte(b.Name)) })
	return out
}

// elsewhere tells whether in has a segment other than seg.
func elsewhere(in []int, seg int) bool {
	return len(rowWhere(in, func(n int) bool { return n != seg })) > 0
}

// here goes through the places that a record can have in the segment, from the first one on: at each, digests come first.
func (m *model) here(seg int) []api.Word {
	digests, names := map[int][]api.Word{}, map[int][]api.Word{}
	offs := map[int]bool{}
	for _, e := range m.row() {
		if e.Loc.Seg == seg && (e.Kind != 5 || elsewhere(e.In, seg)) {
			offs[e.Loc.Off] = true
			digests[e.Loc.Off] = append(digests[e.Loc.Off], api.Word{Kind: e.Kind, Digest: e.Digest, Size: e.Size, Loc: e.Loc})
		}
	}
	for _, e := range m.tags() {
		if e.Loc.Seg == seg && (!e.Gone || elsewhere(e.In, seg)) {
			kind := 3
			if e.Gone {
				kind = 4
			}
			offs[e.Loc.Off] = true
			names[e.Loc.Off] = append(names[e.Loc.Off], api.Word{Kind: kind, Digest: e.Digest, Name: e.Name, Loc: e.Loc})
		}
	}
	var row []int
	for off := range offs {
		row = append(row, off)
	}
	var out []api.Word
	for _, off := range rowOf(row...) {
		out = slices.Concat(out, digests[off], names[off])
	}
	return out
}

func (m *model) loads() []api.Load {
	var segs []int
	for seg := range m.all {
		segs = append(segs, seg)
	}
	var out []api.Load
	for _, seg := range rowOf(segs...) {
		load := api.Load{Seg: seg, All: m.all[seg]}
		for _, w := range m.here(seg) {
			load.Live += w.Loc.Len
		}
		out = append(out, load)
	}
	return out
}

func (m *model) snapshot() api.Snapshot {
	return api.Snapshot{Digests: m.row(), Tags: m.tags(), Loads: m.loads()}
}

// existing answers the names that are not Gone, and what they name.
func (m *model) existing() ([]string, []api.Digest) {
	var names []string
	var named []api.Digest
	for _, e := range m.tags() {
		if !e.Gone {
			names, named = append(names, e.Name), append(named, e.Digest)
		}
	}
	return names, named
}

func (m *model) list(after string, n int) []string {
	var out []string
	names, _ := m.existing()
	for _, name := range names {
		if bytes.Compare([]byte(name), []byte(after)) > 0 && n > 0 {
			out = append(out, name)
			n--
		}
	}
	return out
}

func (m *model) count() (int, int, int) {
	n, size := 0, 0
	for _, e := range m.digests {
		if e.Kind != 5 {
			n++
			size += e.Size
		}
	}
	names, _ := m.existing()
	return n, size, len(names)
}

// rowWhere answers the segments of l that fit, ascending and each once.
func rowWhere(l []int, fits func(seg int) bool) []int {
	found := map[int]bool{}
	var out []int
	for _, seg := range l {
		if fits(seg) && !found[seg] {
			found[seg] = true
			out = append(out, seg)
		}
	}
	slices.Sort(out)
	return out
}

func rowOf(l ...int) []int {
	return rowWhere(l, func(int) bool { return true })
}

// same tells whether two entries of digests are the same; nil and empty rows are.
func same(a, b api.Entry) bool {
	return a.Digest == b.Digest && a.Kind == b.Kind && a.Size == b.Size && a.Loc == b.Loc && slices.Equal(a.In, b.In)
}

// sameTag tells whether two entries of names are the same; nil and empty rows are.
func sameTag(a, b api.TagEntry) bool {
	return a.Name == b.Name && a.Digest == b.Digest && a.Gone == b.Gone && a.Loc == b.Loc && slices.Equal(a.In, b.In)
}

// sameSnapshot tells whether two snapshots are the same; nil and empty rows are.
func sameSnapshot(a, b api.Snapshot) bool {
	return a.Number == b.Number && a.Seg == b.Seg && a.Off == b.Off && a.Seq == b.Seq &&
		slices.EqualFunc(a.Digests, b.Digests, same) && slices.EqualFunc(a.Tags, b.Tags, sameTag) && slices.Equal(a.Loads, b.Loads)
}

// pair is a state and what it is to have. Each call is made on both, with rows that have spare room around them, and Count is asked for behind each single call.
type pair struct {
	t     *testing.T
	state *State
	model *model
	// Those of which a call has spoken.
	digests map[api.Digest]bool
	names   map[string]bool
	segs    map[int]bool
}

// newPair answers a pair with what a snapshot has.
func newPair(t *testing.T, s api.Snapshot) *pair {
	t.Helper()
	p := &pair{t, nil, modelOf(s), map[api.Digest]bool{}, map[string]bool{}, map[int]bool{}}
	given, stays := snapshotWithRoom(s)
	p.state = New(given)
	stays(t, "New")
	for _, e := range s.Digests {
		p.digests[e.Digest] = true
		p.speak(append(e.In, e.Loc.Seg)...)
	}
	for _, e := range s.Tags {
		p.names[e.Name] = true
		p.speak(append(e.In, e.Loc.Seg)...)
	}
	for _, load := range s.Loads {
		p.speak(load.Seg)
	}
	p.count("New")
	return p
}

// speak says that a call has spoken of the segments.
func (p *pair) speak(segs ...int) {
	for _, seg := range segs {
		p.segs[seg] = true
	}
}

// apply does what a word says.
func (p *pair) apply(w api.Word) {
	p.t.Helper()
	p.digests[w.Digest] = true
	p.names[w.Name] = true
	p.speak(w.Loc.Seg)
	p.model.apply(w)
	p.state.Apply(w)
	p.count("Apply")
	p.digest(w.Digest)
	p.tag(w.Name)
}

// keep leaves what is in the segments.
func (p *pair) keep(segs ...int) {
	p.t.Helper()
	p.speak(segs...)
	p.model.keep(segs)
	given, stays := withRoom(segs)
	p.state.Keep(given)
	stays(p.t, "Keep")
	p.count("Keep")
}

// digest asks for a digest.
func (p *pair) digest(d api.Digest) {
	p.t.Helper()
	want, known := p.model.digests[d]
	if e, ok := p.state.Digest(d); ok != known || !same(e, want) {
		p.t.Fatalf("Digest of %x = %v, %v, want %v, %v", d, e, ok, want, known)
	}
}

// tag asks for a name.
func (p *pair) tag(name string) {
	p.t.Helper()
	want, known := p.model.names[name]
	if e, ok := p.state.Tag(name); ok != known || !sameTag(e, want) {
		p.t.Fatalf("Tag of %q = %v, %v, want %v, %v", name, e, ok, want, known)
	}
}

// count asks for Count behind a call.
func (p *pair) count(call string) {
	p.t.Helper()
	n, size, names := p.state.Count()
	if m, all, others := p.model.count(); n != m || size != all || names != others {
		p.t.Fatalf("behind %s, Count = %d, %d, %d, want %d, %d, %d", call, n, size, names, m, all, others)
	}
}

// here asks for the live records of a segment.
func (p *pair) here(seg int) []api.Word {
	p.t.Helper()
	checkHere(p.t, p.state, seg, p.model.here(seg)...)
	return p.state.Here(seg)
}

// heres asks for the live records of each segment of which a call has spoken, and of others.
func (p *pair) heres() {
	p.t.Helper()
	for _, seg := range []int{0, 1, -1, 98765, math.MinInt, math.MaxInt} {
		p.here(seg)
	}
	for seg := range p.segs {
		p.here(seg)
	}
}

// row asks for all entries and loads.
func (p *pair) row() {
	p.t.Helper()
	checkSnapshot(p.t, p.state, p.model.snapshot())
	checkLoads(p.t, p.state, p.model.loads()...)
}

// lists asks for names, and for what they name.
func (p *pair) lists() {
	p.t.Helper()
	names, named := p.model.existing()
	checkNames(p.t, p.state, named...)
	for _, after := range append([]string{"", "a", "\xff"}, names[:min(len(names), 9)]...) {
		for _, n := range []int{math.MinInt, -1, 0, 1, 2, len(names), math.MaxInt} {
			checkList(p.t, p.state, after, n, p.model.list(after, n)...)
		}
	}
}

// all asks for everything, which changes nothing.
func (p *pair) all() {
	p.t.Helper()
	p.row()
	for d := range p.digests {
		p.digest(d)
	}
	for name := range p.names {
		p.tag(name)
	}
	p.digest(dig(54321))
	p.tag("unknown")
	p.lists()
	p.heres()
	p.count("Here")
	p.row()
	p.count("Snapshot")
}

// twin answers a pair with a state that New made from the Snapshot of this one.
func (p *pair) twin() *pair {
	p.t.Helper()
	out := newPair(p.t, p.state.Snapshot())
	out.model = modelOf(p.model.snapshot())
	out.digests, out.names, out.segs = p.digests, p.names, p.segs
	out.all()
	return out
}

// checkSnapshot wants just this snapshot.
func checkSnapshot(t *testing.T, x *State, want api.Snapshot) {
	t.Helper()
	if got := x.Snapshot(); !sameSnapshot(got, want) {
		t.Fatalf("Snapshot = %v, want %v", got, want)
	}
}

// checkHere wants just these live records.
func checkHere(t *testing.T, x *State, seg int, want ...api.Word) {
	t.Helper()
	if got := x.Here(seg); !slices.Equal(got, want) {
		t.Fatalf("Here of %d = %v, want %v", seg, got, want)
	}
}

// checkLoads wants just these loads.
func checkLoads(t *testing.T, x *State, want ...api.Load) {
	t.Helper()
	if got := x.Loads(); !slices.Equal(got, want) {
		t.Fatalf("Loads = %v, want %v", got, want)
	}
}

func checkCount(t *testing.T, x *State, digests, size, names int) {
	t.Helper()
	if n, m, k := x.Count(); n != digests || m != size || k != names {
		t.Fatalf("Count = %d, %d, %d, want %d, %d, %d", n, m, k, digests, size, names)
	}
}

func checkDigest(t *testing.T, x *State, d api.Digest, want api.Entry, known bool) {
	t.Helper()
	if e, ok := x.Digest(d); ok != known || !same(e, want) {
		t.Fatalf("Digest = %v, %v, want %v, %v", e, ok, want, known)
	}
}

func checkTag(t *testing.T, x *State, name string, want api.TagEntry, known bool) {
	t.Helper()
	if e, ok := x.Tag(name); ok != known || !sameTag(e, want) {
		t.Fatalf("Tag of %q = %v, %v, want %v, %v", name, e, ok, want, known)
	}
}

// checkNames wants just these digests.
func checkNames(t *testing.T, x *State, want ...api.Digest) {
	t.Helper()
	if got := x.Names(); !slices.Equal(got, want) {
		t.Fatalf("Names = %x, want %x", got, want)
	}
}

func checkList(t *testing.T, x *State, after string, n int, want ...string) {
	t.Helper()
	if got := x.List(after, n); !slices.Equal(got, want) {
		t.Fatalf("List of %q, %d = %q, want %q", after, n, got, want)
	}
}

// withRoom answers the row l with spare room ahead of it and behind it, and a check that nothing of that has changed. The row nil stays nil.
func withRoom(l []int) ([]int, func(t *testing.T, call string)) {
	if l == nil {
		return nil, func(*testing.T, string) {}
	}
	room := slices.Concat([]int{71, -72}, l, []int{93, -94, 95})
	was := slices.Clone(room)
	return room[2 : 2+len(l)], func(t *testing.T, call string) {
		t.Helper()
		if !slices.Equal(room, was) {
			t.Fatalf("%s made %v of what came in as %v", call, room, was)
		}
	}
}

// snapshotWithRoom answers the snapshot s, with spare room around its lists and around each In, and a check that nothing of that has changed.
func snapshotWithRoom(s api.Snapshot) (api.Snapshot, func(t *testing.T, call string)) {
	digests := slices.Concat([]api.Entry{{Size: 7, In: []int{79}}}, s.Digests, []api.Entry{{Size: 8, In: []int{78}}})
	tags := slices.Concat([]api.TagEntry{{Name: "ahead", In: []int{79}}}, s.Tags, []api.TagEntry{{Name: "behind", In: []int{78}}})
	loads := slices.Concat([]api.Load{{Seg: 77, All: 7}}, s.Loads, []api.Load{{Seg: 78, All: 8}})
	var checks []func(t *testing.T, call string)
	room := func(in *[]int) {
		given, stays := withRoom(*in)
		*in = given
		checks = append(checks, stays)
	}
	for i := range digests {
		room(&digests[i].In)
	}
	for i := range tags {
		room(&tags[i].In)
	}
	whole := api.Snapshot{Digests: digests, Tags: tags, Loads: loads}
	was := api.Snapshot{Digests: slices.Clone(digests), Tags: slices.Clone(tags), Loads: slices.Clone(loads)}
	given := s
	given.Digests, given.Tags, given.Loads = digests[1:1+len(s.Digests)], tags[1:1+len(s.Tags)], loads[1:1+len(s.Loads)]
	return given, func(t *testing.T, call string) {
		t.Helper()
		if !sameSnapshot(whole, was) {
			t.Fatalf("%s made %v of what came in as %v", call, whole, was)
		}
		for _, stays := range checks {
			stays(t, call)
		}
	}
}

// What the calls are made on.

// dig answers a digest, another one for each n up to 65535, in the order of the numbers.
func dig(n int) api.Digest { return api.Digest{0: byte(n >> 8), 1: byte(n), 31: 1} }

// mixed answers a digest, another one for each i up to 10006, which follow no order.
func mixed(i int) api.Digest { return dig(i * 7919 % 10007) }

// nth answers a name, another one for each i.
func nth(i int) string { return "n" + strconv.Itoa(i) }

// loc answers a place.
func loc(seg, off, size int) api.Loc { return api.Loc{Seg: seg, Off: off, Len: size} }

// Of each kind, what a record in segment seg says; records of different kinds have different places and lengths.

func blob(d api.Digest, size, seg int) api.Word {
	return api.Word{Kind: api.RecBlob, Seq: 11, Digest: d, Size: size, Loc: loc(seg, 37, 53+size)}
}

func image(d api.Digest, size, seg int) api.Word {
	return api.Word{Kind: api.RecManifest, Seq: 12, Digest: d, Size: size, Loc: loc(seg, 200, 53+size)}
}

func tag(name string, d api.Digest, seg int) api.Word {
	return api.Word{Kind: api.RecTag, Seq: 13, Digest: d, Name: name, Loc: loc(seg, 300, 54+len(name))}
}

func untag(name string, seg int) api.Word {
	return api.Word{Kind: api.RecUntag, Seq: 14, Name: name, Loc: loc(seg, 100, 22+len(name))}
}

func deletion(d api.Digest, seg int) api.Word {
	return api.Word{Kind: api.RecDelete, Seq: 15, Digest: d, Loc: loc(seg, 150, 53)}
}

func commit(seg int) api.Word {
	return api.Word{Kind: api.RecCommit, Seq: 16, Size: 99, Loc: loc(seg, 400, 29)}
}

// putEntry answers the entry of a digest behind the record w of it.
func putEntry(w api.Word, in ...int) api.Entry {
	return api.Entry{Digest: w.Digest, Kind: w.Kind, Size: w.Size, Loc: w.Loc, In: in}
}

// tagEntry answers the entry of a name behind the record w of it.
func tagEntry(w api.Word, in ...int) api.TagEntry {
	return api.TagEntry{Name: w.Name, Digest: w.Digest, Gone: w.Kind == api.RecUntag, Loc: w.Loc, In: in}
}

// told answers what Here is to say of a record: all but its number.
func told(w api.Word) api.Word {
	w.Seq = 0
	return w
}

// at answers the same word at another place of its segment.
func at(w api.Word, off int) api.Word {
	w.Loc.Off = off
	return w
}

// kinds answers all that a record can have.
func kinds() []int {
	return []int{api.RecBlob, api.RecManifest, api.RecTag, api.RecUntag, api.RecDelete}
}

// otherKinds answers those that are neither of a digest nor of a name.
func otherKinds() []int {
	return []int{api.RecCommit, api.RecHeader, api.RecFooter, 0, -1, -2, -3, -4, -5, 9, 10, 99, 256 + api.RecBlob, 256 + api.RecDelete, 1<<32 + api.RecTag, math.MinInt, math.MaxInt}
}

// sortsOfNumbers answers numbers of all sorts.
func sortsOfNumbers() []int {
	return []int{0, 1, -1, 62, 1 << 40, math.MinInt, math.MaxInt}
}

// sortsOfRows answers rows of segments: none, and with one, with several in order and in none, and with some of them twice.
func sortsOfRows() [][]int {
	return [][]int{
		nil, {}, {3}, {0}, {-1}, {1, 3}, {3, 1}, {3, 3}, {1, 2, 3, 4}, {4, 3, 2, 1}, {2, 4, 1, 3}, {3, 1, 3, 1, 1, 3}, {4, 4, 1, 4},
		{1, 0, -1, 0}, {math.MaxInt, 0, math.MinInt, 3, math.MaxInt}, {257, 1, 256}, {1<<32 + 1, 1}, {api.MaxNumber, 1, api.MaxNumber},
	}
}

// rowsOf answers all rows of just size numbers below n.
func rowsOf(size, n int) [][]int {
	out := [][]int{nil}
	for range size {
		var next [][]int
		for _, row := range out {
			for i := range n {
				next = append(next, append(slices.Clone(row), i))
			}
		}
		out = next
	}
	return out
}

// subsets answers all rows that have some of the segments, in their order.
func subsets(segs ...int) [][]int {
	var out [][]int
	for code := range 1 << len(segs) {
		var row []int
		for i, seg := range segs {
			if code>>i&1 == 1 {
				row = append(row, seg)
			}
		}
		out = append(out, row)
	}
	return out
}

// others answers the segments of l but seg.
func others(l []int, seg int) []int {
	return rowWhere(l, func(n int) bool { return n != seg })
}

// orders answers l in several orders: as it is, backwards, from its middle on, and those at even places ahead of the others.
func orders[T any](l []T) [][]T {
	half := len(l) / 2
	backwards := slices.Clone(l)
	slices.Reverse(backwards)
	var even, odd []T
	for i, v := range l {
		if i%2 == 0 {
			even = append(even, v)
		} else {
			odd = append(odd, v)
		}
	}
	return [][]T{l, backwards, slices.Concat(l[half:], l[:half]), slices.Concat(even, odd)}
}
