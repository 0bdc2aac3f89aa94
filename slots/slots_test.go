package slots

import (
	"bytes"
	"math"
	"math/rand/v2"
	"reflect"
	"slices"
	"testing"

	"stillage/api"
)

// methods are those of a table, as the chapter declares them.
type methods[V any] interface {
	Put(d api.Digest, v V)
	Get(d api.Digest) (V, bool)
	Cut(d api.Digest) bool
	Len() int
	Slots() int
	Row() []api.Digest
}

var (
	_ methods[int]      = New[int]()
	_ methods[[]string] = New[[]string]()
)

// edges are the greatest numbers of digests for so many slots.
var edges = []struct{ digests, slots int }{
	{6, 8}, {12, 16}, {24, 32}, {48, 64}, {96, 128}, {192, 256}, {384, 512}, {768, 1024}, {1536, 2048}, {3072, 4096}, {6144, 8192},
}

// P18.1, P18.2: what the chapter's examples say.
func TestExamples(t *testing.T) {
	s := New[string]()
	for i := range 6 {
		s.Put(near(1, i), "old")
	}
	if s.Slots() != 8 {
		t.Errorf("6 digests have %d slots", s.Slots())
	}
	s.Put(near(1, 2), "new")
	if s.Slots() != 8 {
		t.Errorf("behind a new value there are %d slots", s.Slots())
	}
	s.Put(api.Digest{}, "zero")
	if s.Slots() != 16 {
		t.Errorf("7 digests have %d slots", s.Slots())
	}
	if !s.Cut(near(1, 4)) || s.Cut(near(1, 4)) {
		t.Error("Cut tells it wrong")
	}
	if v, ok := s.Get(near(1, 2)); v != "new" || !ok {
		t.Errorf("Get = %q, %v", v, ok)
	}
	want := []api.Digest{{}, near(1, 0), near(1, 1), near(1, 2), near(1, 3), near(1, 5)}
	if got := s.Row(); !slices.Equal(got, want) {
		t.Errorf("Row = %x, want %x", got, want)
	}
}

// P18.1, P18.2: in a table without digests, whatever is asked for is not there.
func TestNoDigest(t *testing.T) {
	p := newPair[int](t)
	p.all()
	for _, d := range append(many(300, spread), api.Digest{}, filled(255), near(7, 0), near(8, 0), near(65535, 0)) {
		p.get(d)
		p.cut(d)
		p.cut(d)
	}
	p.all()
	if l := New[int]().Row(); len(l) != 0 {
		t.Errorf("Row = %x", l)
	}
}

// P18.1: one digest, whichever: it has a value, a new one, none, and one again; no other digest has one.
func TestOneDigest(t *testing.T) {
	l := append(many(20, spread), api.Digest{}, filled(255), filled(1), api.Digest{31: 1}, api.Digest{0: 1}, api.Digest{1: 1}, near(7, 0), near(8, 0), near(65535, 0))
	for _, d := range l {
		p := newPair[int](t)
		for v := range 3 {
			p.put(d, v+1)
			p.put(d, v+100)
			for _, other := range l {
				p.get(other)
				if other != d {
					p.cut(other)
				}
			}
			p.all()
			p.cut(d)
			p.cut(d)
			p.all()
		}
	}
}

// P18.1: values of several types in tables of no digest, of one, of few and of some thousands.
func TestSeveralTypes(t *testing.T) {
	type place struct {
		seg, off int
		name     string
	}
	equal := func(a, b []byte) bool { return bytes.Equal(a, b) && (a == nil) == (b == nil) }
	texts := [...]string{"", "a", "ab", "\x00", "a longer text of several words"}
	values := make([]int, 5)
	checkType(t, func(i int) int { return i - 1 })
	checkType(t, func(i int) string { return texts[i%5] })
	checkType(t, func(i int) place { return place{i, -i, texts[i%5]} })
	checkType(t, func(i int) *int { return &values[i%5] })
	checkTypeOf(t, equal, func(i int) []byte { return []byte(texts[i%5]) })
	checkType(t, func(i int) bool { return i%2 == 0 })
	checkType(t, func(i int) uint8 { return uint8(i) })
	checkType(t, func(i int) api.Digest { return spread(i % 5) })
	checkType(t, func(i int) [3]int16 { return [3]int16{int16(i), 7, -1} })
	checkType(t, func(int) struct{} { return struct{}{} })
	checkType(t, func(i int) error { return api.Errno(i) })
	checkType(t, func(i int) any { return []any{nil, i, texts[i%5]}[i%3] })
	checkTypeOf(t, func(a, b float64) bool { return math.Float64bits(a) == math.Float64bits(b) }, func(i int) float64 {
		return []float64{math.NaN(), math.Inf(-1), math.Copysign(0, -1), 0, float64(i)}[i%5]
	})
	checkTypeOf(t, func(a, b func() int) bool { return called(a) == called(b) }, func(i int) func() int {
		return func() int { return i }
	})
	checkTypeOf(t, func(a, b map[int]int) bool { return len(a) == len(b) && a[0] == b[0] }, func(i int) map[int]int {
		return map[int]int{0: i}
	})
}

// called answers what f answers, and -1 if it is nil.
func called(f func() int) int {
	if f == nil {
		return -1
	}
	return f()
}

func checkType[V comparable](t *testing.T, value func(i int) V) {
	t.Helper()
	checkTypeOf(t, func(a, b V) bool { return a == b }, value)
}

func checkTypeOf[V any](t *testing.T, same func(a, b V) bool, value func(i int) V) {
	t.Helper()
	for _, size := range []int{0, 1, 2, 6, 7, 40, 3000} {
		p := newPairOf(t, same)
		for i := range size {
			p.put(spread(i), value(i))
		}
		p.all()
		for i := range size {
			p.put(spread(i), value(i+1))
			if i%3 == 0 {
				p.cut(spread(i))
			}
		}
		p.all()
		for i := range size {
			p.put(spread(i), value(i+2))
		}
		p.all()
	}
}

// P18.1: a digest has the zero value if that was put, and none if it was not.
func TestZeroValues(t *testing.T) {
	one := 1
	checkZero(t, 1)
	checkZero(t, "a")
	checkZero(t, true)
	checkZero(t, 0.5)
	checkZero(t, &one)
	checkZero(t, struct{ a, b int }{1, 2})
	checkZero(t, [2]string{"a", "b"})
	checkZero[any](t, 1)
	s := New[[]int]()
	s.Put(spread(0), nil)
	s.Put(spread(1), []int{})
	if v, ok := s.Get(spread(0)); v != nil || !ok {
		t.Errorf("nil became %v, %v", v, ok)
	}
	if v, ok := s.Get(spread(1)); v == nil || len(v) != 0 || !ok {
		t.Errorf("an empty slice became %v, %v", v, ok)
	}
	if v, ok := s.Get(spread(2)); v != nil || ok {
		t.Errorf("nothing became %v, %v", v, ok)
	}
}

func checkZero[V comparable](t *testing.T, v V) {
	t.Helper()
	var zero V
	p := newPair[V](t)
	for i := range 30 {
		p.put(spread(i), zero)
		p.put(near(3, i), v)
	}
	p.all()
	for i := range 30 {
		p.put(spread(i), v)
		p.put(near(3, i), zero)
	}
	p.all()
	for i := range 30 {
		p.put(spread(i), zero)
		p.cut(spread(i))
		p.cut(near(3, i))
	}
	p.all()
}

// P18.1: a new value is put for each digest, also when it was cut before, and those of the others stay.
func TestNewValues(t *testing.T) {
	for _, size := range []int{1, 2, 6, 7, 30, 200} {
		p := newPair[int](t)
		for i := range size {
			p.put(spread(i), i)
		}
		for i := range size {
			p.put(spread(i), -i-1)
			p.each()
			p.cut(spread(i))
			p.each()
			p.put(spread(i), i+1000)
			p.each()
		}
		p.all()
	}
}

// P18.1: each digest of a table is cut, in several orders; behind each Cut, the others have the values that they had.
func TestCutInOrders(t *testing.T) {
	kinds := []func(i int) api.Digest{
		spread,
		func(i int) api.Digest { return near(7, i) },
		func(i int) api.Digest { return near(i, i) },
		func(i int) api.Digest { return near(i*i, i) },
		func(i int) api.Digest { return near(65535-i/3, i) },
		func(i int) api.Digest { return near(i<<8, i) },
	}
	for _, kind := range kinds {
		for _, size := range []int{1, 2, 3, 4, 5, 6, 7, 11, 12, 13, 25, 60} {
			l := many(size, kind)
			for _, order := range orders(l) {
				checkCuts(t, l, order)
			}
		}
	}
	checkCuts(t, many(1000, spread), backwards(many(1000, spread)))
	checkCuts(t, many(400, kinds[1]), many(400, kinds[1]))
}

// checkCuts puts the digests of l, and cuts them in the order.
func checkCuts(t *testing.T, l, order []api.Digest) {
	t.Helper()
	p := newPair[int](t)
	for i, d := range l {
		p.put(d, i)
	}
	for _, d := range order {
		p.cut(d)
		p.each()
		checkPlaces(t, p.table)
	}
	p.all()
}

// P18.1, P18.2: the same digest is cut and put again and again, beside up to six others; there are no more slots for that.
func TestAgain(t *testing.T) {
	for size := range 7 {
		for _, d := range []api.Digest{{}, filled(255), near(3, 9), near(7, 9)} {
			p := newPair[int](t)
			for i := range size {
				p.put(near(2+i, i), i)
			}
			for n := range 1000 {
				p.put(d, n)
				p.get(near(2, 0))
				p.cut(d)
				p.get(near(3, 1))
			}
			p.all()
		}
	}
}

// P18.1, P18.2: one digest after the other, another one each time, is put and cut beside five others, and so leaves nothing behind.
func TestAnotherEachTime(t *testing.T) {
	for _, kind := range []func(i int) api.Digest{spread, func(i int) api.Digest { return near(i, i) }, func(i int) api.Digest { return near(5, i) }} {
		p := newPair[int](t)
		for i := range 5 {
			p.put(kind(10000+i), i)
		}
		for i := range 3000 {
			p.put(kind(i), i)
			p.cut(kind(i))
			if i%100 == 0 {
				p.all()
				p.gone = map[api.Digest]bool{}
			}
		}
		if n := p.table.Slots(); n != 8 {
			t.Errorf("%d slots", n)
		}
	}
}

// P18.1: the least digest and the greatest one.
func TestLeastAndGreatest(t *testing.T) {
	least, greatest := api.Digest{}, filled(255)
	for size := range 30 {
		p := newPair[string](t)
		p.put(least, "least")
		for i := range size {
			p.put(spread(i), "other")
		}
		p.put(greatest, "greatest")
		p.all()
		if l := p.table.Row(); l[0] != least || l[size+1] != greatest {
			t.Fatalf("Row = %x", l)
		}
		p.cut(least)
		p.all()
		p.put(least, "again")
		p.cut(greatest)
		p.all()
		p.cut(least)
		p.all()
	}
}

// P18.1: digests of which the first two bytes are the same and one of the other bits differs, and such as differ in one of the first 16 bits.
func TestOneBit(t *testing.T) {
	for _, base := range []api.Digest{{}, filled(255), spread(1), near(65535, 0)} {
		for _, from := range []int{0, 16} {
			l := []api.Digest{base}
			for bit := from; bit < 256; bit++ {
				d := base
				d[bit/8] ^= 1 << (bit % 8)
				l = append(l, d)
			}
			p := newPair[int](t)
			for i, d := range l {
				p.put(d, i)
				p.get(l[(i+1)%len(l)])
			}
			p.all()
			for i := 0; i < len(l); i += 2 {
				p.cut(l[i])
				p.get(l[(i+1)%len(l)])
			}
			p.all()
		}
	}
}

// P18.1: in a table that has one digest, one that differs in one bit has no value, and Cut of it leaves the other.
func TestOneBitOfOne(t *testing.T) {
	for bit := range 256 {
		d := spread(bit)
		other := d
		other[bit/8] ^= 1 << (bit % 8)
		p := newPair[int](t)
		p.put(d, bit)
		p.get(other)
		p.cut(other)
		p.all()
	}
}

// P18.1, P18.2: digests whose first byte is the same and whose second one is not have one slot while there are few, and others when there are many.
func TestSecondByte(t *testing.T) {
	for _, low := range []int{0, 1, 7, 128, 255} {
		p := newPair[int](t)
		l := many(1000, func(i int) api.Digest { return near(low+i<<8, i) })
		for i, d := range l {
			p.put(d, i)
			p.get(l[(i+1)%len(l)])
			if i%50 == 0 || i == 191 || i == 192 || i == 383 || i == 384 {
				p.all()
			}
		}
		for i, d := range l {
			p.cut(d)
			if i%50 == 0 {
				p.all()
			}
		}
	}
}

// P18.1: digests whose slots are the last ones and the first ones, and which wrap around, for each number of slots.
func TestWrap(t *testing.T) {
	for _, e := range edges[:7] {
		for _, last := range []int{e.slots - 1, e.slots - 2, 65535} {
			var l []api.Digest
			for i := range e.digests {
				l = append(l, near([]int{last, 0, last, 1, last}[i%5], i))
			}
			for _, order := range orders(l)[:3] {
				p := newPair[int](t)
				for i, d := range l {
					p.put(d, i)
				}
				p.all()
				for i, d := range order {
					p.cut(d)
					if i < 8 || i%32 == 0 {
						p.all()
					}
				}
			}
		}
	}
}

// P18.1: tables of up to six digests, which have each slot: each of them is cut, the others stay.
func TestRuns(t *testing.T) {
	for size := 1; size <= 6; size++ {
		for code := range 1 << (3 * size) {
			l := many(size, func(i int) api.Digest { return near(code>>(3*i)&7, i) })
			for cut := range l {
				checkRun(t, l, cut)
			}
		}
	}
}

// P18.1: tables of up to five digests, which have each slot: two of them are cut, in each order, the others stay; so does the first one if it is put again.
func TestRunsCutTwice(t *testing.T) {
	for size := 2; size <= 5; size++ {
		for code := range 1 << (3 * size) {
			l := many(size, func(i int) api.Digest { return near(code>>(3*i)&7, i) })
			for n := range size * size {
				if n/size != n%size {
					checkRun(t, l, n/size, n%size)
				}
			}
		}
	}
}

// checkRun puts the digests of l, cuts some of them, asks for all, puts the first of those again, and asks for all.
func checkRun(t *testing.T, l []api.Digest, cuts ...int) {
	t.Helper()
	s := New[int]()
	for i, d := range l {
		s.Put(d, i+1)
	}
	for i, cut := range cuts {
		if !s.Cut(l[cut]) || s.Cut(l[cut]) || s.Len() != len(l)-i-1 {
			t.Fatalf("Cut of %d of %x", cut, l)
		}
	}
	checkRest(t, s, l, cuts)
	s.Put(l[cuts[0]], cuts[0]+1)
	checkRest(t, s, l, cuts[1:])
}

// checkRest asks for all digests of l, some of which have been cut.
func checkRest(t *testing.T, s *Table[int], l []api.Digest, cuts []int) {
	t.Helper()
	for i, d := range l {
		want, there := i+1, true
		if slices.Contains(cuts, i) {
			want, there = 0, false
		}
		if v, ok := s.Get(d); v != want || ok != there {
			t.Fatalf("behind Cut of %d of %x, %x has %d, %v", cuts, l, d, v, ok)
		}
	}
	if s.Len() != len(l)-len(cuts) || s.Slots() != 8 {
		t.Fatalf("behind Cut of %d of %x, there are %d in %d slots", cuts, l, s.Len(), s.Slots())
	}
}

// P18.1: a run of neighbouring slots in a table of 16, from each slot on, of which the first, a middle one and the last is cut; other digests have slots ahead of its end, behind it and across the wrap.
func TestRunsOfMany(t *testing.T) {
	shapes := [][]int{
		{0, 1, 2, 3, 4, 5, 6, 7},
		{0, 0, 0, 0, 0, 0, 0, 0},
		{0, 0, 1, 1, 2, 2, 3, 3},
		{3, 3, 2, 2, 1, 1, 0, 0},
		{0, 1, 0, 2, 0, 3, 0, 4},
		{0, 0, 2, 2, 4, 4, 6, 6},
		{7, 6, 5, 4, 3, 2, 1, 0},
		{0, 4, 0, 4, 0, 4, 0, 4, 0, 4},
		{0, 2, 1, 0, 5, 4, 2, 9, 8, 8},
		{0, 1, 2, 3, 0, 5, 6, 7, 4, 9, 10, 9},
	}
	for _, shape := range shapes {
		for from := range 16 {
			l := many(len(shape), func(i int) api.Digest { return near((from+shape[i])%16, i) })
			for _, cut := range l {
				p := newPair[int](t)
				for i, d := range l {
					p.put(d, i)
				}
				p.cut(cut)
				p.all()
				p.put(cut, 77)
				p.all()
			}
		}
	}
}

// P18.2: so many digests have so many slots, one more has twice as many. Slots and Len are asked for behind each call.
func TestEdges(t *testing.T) {
	for _, kind := range []func(i int) api.Digest{spread, func(i int) api.Digest { return near(i*5, i) }} {
		p := newPair[int](t)
		size := 0
		for _, e := range edges {
			for size < e.digests {
				p.put(kind(size), size)
				size++
			}
			checkNumbers(t, p.table, e.digests, e.slots)
			checkNoMoreSlots(p, kind)
			checkNumbers(t, p.table, e.digests, e.slots)
			p.all()
			p.put(kind(size), size)
			size++
			checkNumbers(t, p.table, e.digests+1, 2*e.slots)
			p.all()
		}
	}
}

// checkNoMoreSlots makes the calls that do not double the slots of a table to which one more digest would.
func checkNoMoreSlots(p *pair[int], kind func(i int) api.Digest) {
	p.t.Helper()
	size := len(p.values)
	for i := range size {
		p.put(kind(i), i+7)
	}
	p.get(kind(size))
	p.cut(kind(size))
	p.table.Row()
	p.numbers("Row")
	// Whatever is cut makes room for as many.
	for i := range 6 {
		p.cut(kind(i))
		p.put(kind(size+1), i)
		p.cut(kind(size + 1))
		p.put(kind(i), i)
	}
}

func checkNumbers(t *testing.T, s *Table[int], digests, slots int) {
	t.Helper()
	if s.Len() != digests || s.Slots() != slots {
		t.Fatalf("%d digests in %d slots, want %d in %d", s.Len(), s.Slots(), digests, slots)
	}
}

// P18.2: Cut never changes the number of slots, down to no digest; nor does Put up to as many digests as before.
func TestCutKeepsSlots(t *testing.T) {
	for _, e := range edges[:10] {
		for _, more := range []int{-1, 0, 1} {
			l := many(e.digests+more, spread)
			slots := e.slots
			if more > 0 {
				slots *= 2
			}
			p := newPair[int](t)
			for range 3 {
				for i, d := range l {
					p.put(d, i)
				}
				checkNumbers(t, p.table, len(l), slots)
				for i, d := range l {
					p.cut(d)
					checkNumbers(t, p.table, len(l)-i-1, slots)
				}
				p.all()
			}
			// Others, as many as fit, find as much room.
			for i := range slots / 4 * 3 {
				p.put(near(i, i), i)
				checkNumbers(t, p.table, i+1, slots)
			}
			p.put(spread(0), 0)
			checkNumbers(t, p.table, slots/4*3+1, 2*slots)
			p.all()
		}
	}
}

// P18.2: more slots than two bytes can tell; a third byte tells none.
func TestMoreSlotsThanNumbers(t *testing.T) {
	const most = 49152
	other := func(i int) api.Digest {
		d := near(i+i/4, i)
		d[2] = byte(i)
		return d
	}
	s := New[int]()
	for i := range most {
		s.Put(other(i), i)
	}
	checkNumbers(t, s, most, 65536)
	checkPlaces(t, s)
	s.Put(near(65535, 65535), most)
	checkNumbers(t, s, most+1, 131072)
	checkPlaces(t, s)
	for i := range 100 {
		s.Put(near(65535, i), i)
		s.Put(near(0, i), i)
	}
	checkPlaces(t, s)
	for i := range most {
		if v, ok := s.Get(other(i)); v != i || !ok {
			t.Fatalf("%d became %d, %v", i, v, ok)
		}
		if i%2 == 1 && !s.Cut(other(i)) {
			t.Fatalf("%d is not cut", i)
		}
	}
	checkPlaces(t, s)
	checkNumbers(t, s, most/2+200, 131072)
}

// P18.1: Row is ascending and has each digest once, in whichever order they were put and cut.
func TestRow(t *testing.T) {
	for _, size := range []int{0, 1, 2, 5, 6, 7, 12, 13, 100, 1000} {
		l := many(size, spread)
		for _, order := range orders(l) {
			p := newPair[int](t)
			for i, d := range order {
				p.put(d, i)
				if size <= 100 {
					p.all()
				}
			}
			p.all()
			for i, d := range orders(order)[5] {
				p.cut(d)
				if size <= 100 || i%100 == 0 {
					p.all()
				}
			}
		}
	}
}

// P18.1: Row holds whole digests against each other, first byte first, and bytes are numbers without a sign.
func TestRowOfEachByte(t *testing.T) {
	var l []api.Digest
	for i := range 32 {
		for _, b := range []byte{1, 2, 127, 128, 255} {
			d, e := api.Digest{}, filled(9)
			d[i], e[i] = b, b
			l = append(l, d, e)
		}
	}
	l = append(l, filled(9), api.Digest{})
	for _, order := range orders(l) {
		p := newPair[int](t)
		for i, d := range order {
			p.put(d, i)
		}
		p.all()
	}
}

// P18.1: two tables side by side, the one's digests in the other as well, or not.
func TestTwoTables(t *testing.T) {
	p, q := newPair[int](t), newPair[int](t)
	for i := range 200 {
		p.put(spread(i), i)
		q.get(spread(i))
		if i%2 == 0 {
			q.put(spread(i), -i)
		}
		if i%3 == 0 {
			p.cut(spread(i))
		}
		q.numbers("Put and Cut of another table")
		q.all()
		p.all()
	}
	for i := range 200 {
		q.cut(spread(i))
		p.numbers("Cut of another table")
		p.all()
		q.all()
	}
	other := newPair[string](t)
	other.put(spread(1), "a")
	p.all()
	other.all()
}

// P18.3: the methods of a nil table do nothing and answer zero values, whatever the type of the values.
func TestNil(t *testing.T) {
	checkNil(t, 7)
	checkNil(t, "a")
	checkNil(t, []byte("a"))
	checkNil(t, &struct{ n int }{1})
	checkNil(t, struct{ n int }{1})
	checkNil(t, [2]float64{1, 2})
	checkNil(t, func() int { return 1 })
	checkNil[any](t, 1)
	checkNil[error](t, api.ErrNil)
}

func checkNil[V any](t *testing.T, v V) {
	t.Helper()
	var s *Table[V]
	for _, d := range []api.Digest{{}, filled(255), spread(0)} {
		for range 10 {
			checkNilAnswers(t, s, d)
			s.Put(d, v)
			if s != nil {
				t.Fatal("it is a table now")
			}
		}
		checkNilAnswers(t, s, d)
	}
}

func checkNilAnswers[V any](t *testing.T, s *Table[V], d api.Digest) {
	t.Helper()
	if v, ok := s.Get(d); ok || !reflect.ValueOf(&v).Elem().IsZero() {
		t.Errorf("Get = %v, %v", v, ok)
	}
	if s.Cut(d) || s.Len() != 0 || s.Slots() != 0 || len(s.Row()) != 0 {
		t.Errorf("Cut = %v, Len = %d, Slots = %d, Row = %x", s.Cut(d), s.Len(), s.Slots(), s.Row())
	}
}

// R3: a value that is a slice or a pointer is answered as it was put, and what it leads to stays as it was.
func TestValuesStay(t *testing.T) {
	room := []byte("abcdef")
	n := 5
	s, pointers := New[[]byte](), New[*int]()
	s.Put(spread(0), room[1:3])
	pointers.Put(spread(0), &n)
	for i := range 100 {
		s.Put(spread(i+1), room[:1])
		s.Put(spread(i+1), nil)
		pointers.Put(spread(i+1), new(int))
		if i%2 == 0 {
			s.Cut(spread(i + 1))
			pointers.Cut(spread(i + 1))
		}
		s.Row()
	}
	if v, ok := s.Get(spread(0)); string(v) != "bc" || !ok {
		t.Errorf("the slice became %q, %v", v, ok)
	}
	if v, ok := pointers.Get(spread(0)); v != &n || !ok {
		t.Errorf("the pointer became %v, %v", v, ok)
	}
	s.Cut(spread(0))
	pointers.Cut(spread(0))
	if string(room) != "abcdef" || n != 5 {
		t.Errorf("what was put became %q, %d", room, n)
	}
}

// R3: what Row answers is new memory: it stays as it is, and the table does too, whatever becomes of the other.
func TestRowIsNew(t *testing.T) {
	for _, size := range []int{1, 2, 6, 7, 100} {
		p := newPair[int](t)
		for i := range size {
			p.put(spread(i), i)
		}
		want := ascending(many(size, spread))
		l, other := p.table.Row(), p.table.Row()
		for i := range l {
			l[i] = filled(7)
		}
		l = append(l, filled(8))
		p.all()
		if !slices.Equal(other, want) {
			t.Fatalf("the other row became %x", other)
		}
		for i := range size {
			p.cut(spread(i))
			p.put(near(i, i), i)
		}
		if !slices.Equal(other, want) {
			t.Fatalf("the row became %x", other)
		}
		p.all()
	}
}

// R3: a digest that was put stays what it was when the variable becomes another one.
func TestDigestsStay(t *testing.T) {
	s := New[int]()
	var d api.Digest
	for i := range 20 {
		d[31] = byte(i)
		s.Put(d, i)
	}
	for i := range 20 {
		if v, ok := s.Get(api.Digest{31: byte(i)}); v != i || !ok {
			t.Errorf("%d became %d, %v", i, v, ok)
		}
	}
}

// R4: tables on which the same calls are made answer the same; so do those on which the same ones are made in another order.
func TestSameCalls(t *testing.T) {
	l := many(500, spread)
	var rows [][]api.Digest
	for _, order := range append(orders(l), orders(l)...) {
		s := New[api.Digest]()
		for _, d := range order {
			s.Put(spread(1000), d)
			s.Put(d, filled(1))
			s.Put(d, d)
		}
		s.Cut(spread(1000))
		if s.Len() != 500 || s.Slots() != 1024 {
			t.Fatalf("%d digests in %d slots", s.Len(), s.Slots())
		}
		for _, d := range l {
			if v, ok := s.Get(d); v != d || !ok {
				t.Fatalf("%x has %x, %v", d, v, ok)
			}
		}
		rows = append(rows, s.Row())
	}
	for _, row := range rows {
		if !slices.Equal(row, rows[0]) {
			t.Fatal("rows differ")
		}
	}
}

// P18.1, P18.2: all rows of up to five of eight calls, on an empty table and on ones that the third, the second or the next digest doubles.
func TestShortRowsOfCalls(t *testing.T) {
	l := []api.Digest{near(7, 0), near(7, 1), near(0, 0), near(15, 0)}
	for _, others := range []int{0, 4, 5, 6} {
		for size := range 6 {
			for code := range 1 << (3 * size) {
				p := newPair[int](t)
				for i := range others {
					p.put(near(6+i, 9), i)
				}
				for i := range size {
					call := code >> (3 * i) & 7
					if call < 4 {
						p.put(l[call], i)
					} else {
						p.cut(l[call-4])
					}
				}
				p.all()
			}
		}
	}
}

// P18.1, P18.2: long rows of calls, with digests of few slots and of many.
func TestLongRowsOfCalls(t *testing.T) {
	random := rand.New(rand.NewPCG(18, 55))
	for range 60 {
		slots, digests := 1+random.IntN(1<<random.IntN(17)), 1+random.IntN(1<<random.IntN(11))
		l := many(digests, func(i int) api.Digest { return near(65536+random.IntN(slots)-slots/2, i) })
		p := newPair[int](t)
		for n := range 4000 {
			d := l[random.IntN(len(l))]
			// Now puts prevail, and now cuts do.
			switch draw := random.IntN(10); {
			case draw == 0:
				p.get(d)
			case draw < 3+n/500%2*4:
				p.cut(d)
			default:
				p.put(d, random.IntN(3))
			}
			if n%250 == 0 {
				p.all()
			}
		}
		p.all()
	}
}

// R1: thousands of digests with one slot, of which each comes to an end.
func TestThousandsOfOneSlot(t *testing.T) {
	for _, slot := range []int{0, 7, 65535} {
		p := newPair[int](t)
		for i := range 2000 {
			p.put(near(slot, i), i)
		}
		p.get(near(slot, 2000))
		p.all()
		for i := range 2000 {
			p.cut(near(slot, i*7%2000))
		}
		p.all()
	}
}
