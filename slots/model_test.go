package slots

import (
	"bytes"
	"crypto/sha256"
	"reflect"
	"slices"
	"strconv"
	"testing"

	"stillage/api"
)

// first is the number of slots of a new table.
const first = 8

// spread answers a digest, another one for each i, whose bytes follow no order.
func spread(i int) api.Digest { return sha256.Sum256([]byte(strconv.Itoa(i))) }

// near answers a digest whose first two bytes are the number of a slot, the less significant one first; another one for each i up to 65535.
func near(slot, i int) api.Digest {
	return api.Digest{0: byte(slot), 1: byte(slot >> 8), 30: byte(i >> 8), 31: byte(i)}
}

// filled answers the digest whose bytes are all b.
func filled(b byte) api.Digest {
	return api.Digest(bytes.Repeat([]byte{b}, 32))
}

// many answers as many digests.
func many(size int, digest func(i int) api.Digest) []api.Digest {
	var out []api.Digest
	for i := range size {
		out = append(out, digest(i))
	}
	return out
}

// ascending answers the digests of l in ascending order.
func ascending(l []api.Digest) []api.Digest {
	return slices.SortedFunc(slices.Values(l), func(a, b api.Digest) int { return bytes.Compare(a[:], b[:]) })
}

// backwards answers the digests of l from the last one to the first.
func backwards(l []api.Digest) []api.Digest {
	out := slices.Clone(l)
	slices.Reverse(out)
	return out
}

// orders answers l in several orders: as it is, backwards, ascending, descending, from its middle on, and those at even places first.
func orders(l []api.Digest) [][]api.Digest {
	half := len(l) / 2
	var even, odd []api.Digest
	for i, d := range l {
		if i%2 == 0 {
			even = append(even, d)
		} else {
			odd = append(odd, d)
		}
	}
	return [][]api.Digest{
		l,
		backwards(l),
		ascending(l),
		backwards(ascending(l)),
		slices.Concat(l[half:], l[:half]),
		slices.Concat(even, backwards(odd)),
	}
}

// pair is a table and what the chapter says of it. Each call is made on both, and what the table answers is held against the chapter, with Len and Slots behind each single call.
type pair[V any] struct {
	t      *testing.T
	table  *Table[V]
	same   func(a, b V) bool
	values map[api.Digest]V
	slots  int
	gone   map[api.Digest]bool // those that were cut, or that were to be
}

// newPair answers a pair for values that can be compared.
func newPair[V comparable](t *testing.T) *pair[V] {
	t.Helper()
	return newPairOf(t, func(a, b V) bool { return a == b })
}

// newPairOf answers a pair for values of which same tells whether they are the same.
func newPairOf[V any](t *testing.T, same func(a, b V) bool) *pair[V] {
	t.Helper()
	p := &pair[V]{t: t, table: New[V](), same: same, values: map[api.Digest]V{}, slots: first, gone: map[api.Digest]bool{}}
	p.numbers("New")
	return p
}

// put gives a digest a value.
func (p *pair[V]) put(d api.Digest, v V) {
	p.t.Helper()
	_, had := p.values[d]
	if !had && float64(len(p.values)+1) > 0.75*float64(p.slots) {
		p.slots *= 2
	}
	p.values[d] = v
	delete(p.gone, d)
	p.table.Put(d, v)
	p.numbers("Put")
	p.get(d)
}

// cut takes a digest's value away.
func (p *pair[V]) cut(d api.Digest) {
	p.t.Helper()
	_, had := p.values[d]
	delete(p.values, d)
	p.gone[d] = true
	if p.table.Cut(d) != had {
		p.t.Fatalf("Cut of %x does not answer %v", d, had)
	}
	p.numbers("Cut")
	p.get(d)
}

// get asks for a digest's value.
func (p *pair[V]) get(d api.Digest) {
	p.t.Helper()
	want, had := p.values[d]
	if v, ok := p.table.Get(d); ok != had || !p.same(v, want) {
		p.t.Fatalf("Get of %x = %v, %v, want %v, %v", d, v, ok, want, had)
	}
	p.numbers("Get")
}

// numbers asks for Len and Slots behind a call.
func (p *pair[V]) numbers(call string) {
	p.t.Helper()
	if n := p.table.Len(); n != len(p.values) {
		p.t.Fatalf("behind %s, Len is %d, want %d", call, n, len(p.values))
	}
	if n := p.table.Slots(); n != p.slots {
		p.t.Fatalf("behind %s with %d digests, Slots is %d, want %d", call, len(p.values), n, p.slots)
	}
}

// each asks for the value of each digest that has one, and of each that has none any more.
func (p *pair[V]) each() {
	p.t.Helper()
	for d := range p.values {
		p.get(d)
	}
	for d := range p.gone {
		p.get(d)
	}
}

// all asks for everything.
func (p *pair[V]) all() {
	p.t.Helper()
	p.each()
	var l []api.Digest
	for d := range p.values {
		l = append(l, d)
	}
	if got, want := p.table.Row(), ascending(l); !slices.Equal(got, want) {
		p.t.Fatalf("Row = %x, want %x", got, want)
	}
	p.numbers("Row")
	checkPlaces(p.t, p.table)
}

// checkPlaces holds the slots of a table against the chapter: each digest is in the slot that its first two bytes tell, or behind it, and no slot from there on is free. No call tells where a digest is.
func checkPlaces[V any](t *testing.T, table *Table[V]) {
	t.Helper()
	for i, s := range table.slots {
		if !s.taken {
			if !reflect.ValueOf(s).IsZero() {
				t.Fatalf("slot %d is free and keeps %v", i, s)
			}
			continue
		}
		size := len(table.slots)
		for j := (int(s.digest[0]) + 256*int(s.digest[1])) % size; j != i; j = (j + 1) % size {
			if !table.slots[j].taken {
				t.Fatalf("of %d slots, %x is in slot %d, and slot %d is free", size, s.digest, i, j)
			}
		}
	}
}
