package varint

import (
	"bytes"
	"math"
	"testing"

	"stillage/api"
)

// encodings are numbers and their bytes, written out: ordinary ones, and both sides of each edge between two sizes.
var encodings = []struct {
	n uint64
	b []byte
}{
	{0, []byte{0}},
	{1, []byte{1}},
	{2, []byte{2}},
	{100, []byte{100}},
	{127, []byte{127}},
	{128, []byte{128, 1}},
	{129, []byte{129, 1}},
	{255, []byte{255, 1}},
	{256, []byte{128, 2}},
	{300, []byte{172, 2}},
	{1<<14 - 1, []byte{255, 127}},
	{1 << 14, []byte{128, 128, 1}},
	{624485, []byte{229, 142, 38}},
	{1<<21 - 1, []byte{255, 255, 127}},
	{1 << 21, []byte{128, 128, 128, 1}},
	{1<<28 - 1, []byte{255, 255, 255, 127}},
	{1 << 28, []byte{128, 128, 128, 128, 1}},
	{1<<32 - 1, []byte{255, 255, 255, 255, 15}},
	{1 << 32, []byte{128, 128, 128, 128, 16}},
	{1<<35 - 1, []byte{255, 255, 255, 255, 127}},
	{1 << 35, []byte{128, 128, 128, 128, 128, 1}},
	{1<<42 - 1, []byte{255, 255, 255, 255, 255, 127}},
	{1 << 42, []byte{128, 128, 128, 128, 128, 128, 1}},
	{1<<49 - 1, []byte{255, 255, 255, 255, 255, 255, 127}},
	{1 << 49, []byte{128, 128, 128, 128, 128, 128, 128, 1}},
	{1<<56 - 1, []byte{255, 255, 255, 255, 255, 255, 255, 127}},
	{1 << 56, []byte{128, 128, 128, 128, 128, 128, 128, 128, 1}},
	{0x0102030405060708, []byte{136, 142, 152, 168, 192, 224, 128, 129, 1}},
	{1<<63 - 1, []byte{255, 255, 255, 255, 255, 255, 255, 255, 127}},
	{1 << 63, []byte{128, 128, 128, 128, 128, 128, 128, 128, 128, 1}},
	{1<<63 + 1, []byte{129, 128, 128, 128, 128, 128, 128, 128, 128, 1}},
	{math.MaxUint64 - 1, []byte{254, 255, 255, 255, 255, 255, 255, 255, 255, 1}},
	{math.MaxUint64, []byte{255, 255, 255, 255, 255, 255, 255, 255, 255, 1}},
}

var befores = [][]byte{nil, {}, {0}, {128}, {1, 2, 3}, bytes.Repeat([]byte{255}, 20)}

// P2.1: the bytes of each number, behind whatever stands before.
func TestPut(t *testing.T) {
	for _, before := range befores {
		for _, c := range encodings {
			want := append(bytes.Clone(before), c.b...)
			if got := Put(before, c.n); !bytes.Equal(got, want) {
				t.Errorf("Put(%v, %d) = %v, want %v", before, c.n, got, want)
			}
		}
	}
}

// P2.1: Size is what Put appends, from 1 to 10 bytes.
func TestSize(t *testing.T) {
	for _, c := range encodings {
		if got := Size(c.n); got != len(c.b) {
			t.Errorf("Size(%d) = %d, want %d", c.n, got, len(c.b))
		}
	}
	for _, n := range numbers() {
		if got := Size(n); got != len(Put(nil, n)) || got < 1 || got > 10 {
			t.Errorf("Size(%d) = %d, but Put appends %d", n, got, len(Put(nil, n)))
		}
	}
}

// P2.1: no shorter bytes could hold the number, and each byte but the last one has 128 added to it.
func TestPutShortest(t *testing.T) {
	for _, n := range numbers() {
		b := Put(nil, n)
		last := len(b) - 1
		for i, c := range b {
			if c >= 128 != (i < last) {
				t.Errorf("Put of %d: byte %d of %v", n, i, b)
			}
		}
		if last > 0 && n < 1<<(7*last) {
			t.Errorf("Put of %d: %d bytes", n, len(b))
		}
	}
}

// P2.2: the number and the index behind it, with whatever stands before and behind.
func TestTake(t *testing.T) {
	for _, before := range befores {
		for _, behind := range [][]byte{nil, {0}, {1}, {128}, {255, 255}, {128, 0}} {
			for _, c := range encodings {
				b := append(append(bytes.Clone(before), c.b...), behind...)
				checkNumber(t, b, len(before), c.n, len(before)+len(c.b))
			}
		}
	}
}

// P2.2: at may be in the midst of an encoding, and on the last byte.
func TestTakeInside(t *testing.T) {
	b := []byte{255, 172, 2, 0}
	checkNumber(t, b, 0, 127+44<<7+2<<14, 3)
	checkNumber(t, b, 1, 300, 3)
	checkNumber(t, b, 2, 2, 3)
	checkNumber(t, b, 3, 0, 4)
}

// P2.2: a place outside of the bytes is ErrArg, whatever the bytes are; the end itself is a place, but nothing is there.
func TestTakePlaces(t *testing.T) {
	room := []byte{1, 2, 3, 4}
	for _, b := range [][]byte{nil, {}, {1}, {128}, {128, 0}, {172, 2}, bytes.Repeat([]byte{255}, 12), room[:2], make([]byte, 300)} {
		for _, at := range []int{math.MinInt, math.MinInt + 1, math.MinInt32, -len(b) - 1, -2, -1, len(b) + 1, len(b) + 2, len(b) + 300, math.MaxInt32, math.MaxInt - 10, math.MaxInt - 1, math.MaxInt} {
			checkError(t, b, at, api.ErrArg)
		}
		checkError(t, b, len(b), api.ErrShort)
	}
}

// P2.2: bytes that end before one below 128, up to nine of them; what lies behind the end in the same memory is not read.
func TestTakeShort(t *testing.T) {
	for _, c := range []byte{128, 129, 200, 255} {
		for size := 1; size <= 9; size++ {
			room := append(bytes.Repeat([]byte{c}, size), 1)
			checkError(t, room[:size], 0, api.ErrShort)
			checkError(t, append([]byte{7}, room[:size]...), 1, api.ErrShort)
		}
	}
	for _, c := range encodings {
		for size := range c.b {
			checkError(t, c.b[:size], 0, api.ErrShort)
		}
	}
}

// P2.2: a tenth byte above 1, whether it is the last one or not, whether the bytes end behind it or not.
func TestTakeRange(t *testing.T) {
	for _, c := range []byte{128, 129, 255} {
		nine := bytes.Repeat([]byte{c}, 9)
		for tenth := 2; tenth <= 255; tenth++ {
			ten := append(bytes.Clone(nine), byte(tenth))
			for _, behind := range [][]byte{nil, {0}, {1}, {2}, {128}, {128, 0}, {255, 255, 255}} {
				b := append(bytes.Clone(ten), behind...)
				checkError(t, b, 0, api.ErrRange)
				checkError(t, append([]byte{128}, b...), 1, api.ErrRange)
			}
		}
	}
	checkNumber(t, []byte{128, 128, 128, 128, 128, 128, 128, 128, 128, 1, 2}, 0, 1<<63, 10)
}

// P2.2: a last byte 0 that is not the first one, up to the tenth byte; a first byte 0 is a number.
func TestTakeForm(t *testing.T) {
	for _, c := range []byte{128, 129, 255} {
		for size := 1; size <= 9; size++ {
			b := append(bytes.Repeat([]byte{c}, size), 0)
			for _, behind := range [][]byte{nil, {0}, {1}, {128}} {
				checkError(t, append(bytes.Clone(b), behind...), 0, api.ErrForm)
				checkError(t, append(append([]byte{0}, b...), behind...), 1, api.ErrForm)
			}
			checkNumber(t, b, size, 0, size+1)
		}
	}
	checkNumber(t, []byte{0, 0}, 0, 0, 1)
	checkNumber(t, []byte{0, 128}, 0, 0, 1)
}

// P2.2: of errors that apply to the same bytes, the one that is met first.
func TestTakeOrder(t *testing.T) {
	over := bytes.Repeat([]byte{128}, 10)
	cases := []struct {
		b    []byte
		at   int
		want api.Errno
	}{
		{nil, -1, api.ErrArg},
		{nil, 0, api.ErrShort},
		{nil, 1, api.ErrArg},
		{[]byte{128}, 1, api.ErrShort},
		{[]byte{128}, 2, api.ErrArg},
		{[]byte{128, 0}, -1, api.ErrArg},
		{[]byte{128, 0}, 3, api.ErrArg},
		{over, -1, api.ErrArg},
		{over, 11, api.ErrArg},
		{over, 10, api.ErrShort},
		{over, 1, api.ErrShort},
		{over, 0, api.ErrRange},
		{append(bytes.Clone(over), 0), 0, api.ErrRange},
		{append(bytes.Clone(over), 0), 1, api.ErrForm},
		{append(bytes.Clone(over), 1), 0, api.ErrRange},
		{append(bytes.Clone(over), 2), 1, api.ErrRange},
	}
	for _, c := range cases {
		checkError(t, c.b, c.at, c.want)
	}
	checkNumber(t, append(bytes.Clone(over), 1), 1, 1<<63, 11)
}

// P2.3: Take answers what Put encoded, one number behind the other, and then nothing is left.
func TestNumbersComeBack(t *testing.T) {
	b := []byte{200, 200}
	var ends []int
	for _, n := range numbers() {
		longer := Put(b, n)
		if !bytes.Equal(longer[:len(b)], b) {
			t.Fatalf("Put of %d changed what stood before", n)
		}
		b = longer
		ends = append(ends, len(b))
	}
	at := 2
	for i, n := range numbers() {
		checkNumber(t, b, at, n, ends[i])
		at = ends[i]
	}
	checkError(t, b, at, api.ErrShort)
}

// P2.3: whatever Take accepts is what Put would have written, so no number has two encodings. All bytes up to a length of 2, and longer ones of bytes at the edges.
func TestOneEncoding(t *testing.T) {
	for i := range 256 {
		checkAsPut(t, []byte{byte(i)})
		for j := range 256 {
			checkAsPut(t, []byte{byte(i), byte(j)})
		}
	}
	edges := []byte{0, 1, 2, 127, 128, 255}
	for size := 3; size <= 6; size++ {
		total := 1
		for range size {
			total *= len(edges)
		}
		for k := range total {
			b := make([]byte, size)
			for i := range b {
				b[i] = edges[k%len(edges)]
				k /= len(edges)
			}
			checkAsPut(t, b)
		}
	}
	for bits := range 1 << 9 {
		for last := range 256 {
			b := make([]byte, 10)
			for i := range 9 {
				b[i] = 128 + byte(bits>>i&1)
			}
			b[9] = byte(last)
			checkAsPut(t, b)
			checkAsPut(t, b[1:])
			checkAsPut(t, append([]byte{129}, b...))
		}
	}
}

// R3: neither an argument, nor the room behind it, nor what an earlier call answered is changed.
func TestArgumentsStay(t *testing.T) {
	room := []byte{1, 172, 2, 4, 5, 6, 7, 8, 9, 10, 11, 12, 13, 14, 15}
	was := bytes.Clone(room)
	b := room[:2]
	first := Put(b, 300)
	second := Put(b, math.MaxUint64)
	third := Put(b, 0)
	Take(room, 1)
	Take(room[:2], 1)
	if !bytes.Equal(room, was) {
		t.Errorf("the argument became %v", room)
	}
	for _, c := range []struct{ got, want []byte }{
		{first, []byte{1, 172, 172, 2}},
		{second, []byte{1, 172, 255, 255, 255, 255, 255, 255, 255, 255, 255, 1}},
		{third, []byte{1, 172, 0}},
	} {
		if !bytes.Equal(c.got, c.want) {
			t.Errorf("an answer became %v, want %v", c.got, c.want)
		}
		c.got[0] = 99
		if b[0] != 1 {
			t.Error("an answer shares memory with the argument")
			b[0] = 1
		}
	}
}

// numbers are the numbers at and beside each power of 2, with others between them, each of them once.
func numbers() []uint64 {
	out := []uint64{0}
	for i := range 64 {
		p := uint64(1) << i
		out = append(out, p)
		if p > 2 {
			out = append(out, p+1, p+p/2, p+p/3+1, p+(p-1))
		}
	}
	return out
}

func checkNumber(t *testing.T, b []byte, at int, want uint64, end int) {
	t.Helper()
	if n, after, e := Take(b, at); n != want || after != end || e != api.OK {
		t.Errorf("Take(%v, %d) = %d, %d, %v, want %d, %d", b, at, n, after, e, want, end)
	}
}

func checkError(t *testing.T, b []byte, at int, want api.Errno) {
	t.Helper()
	if n, after, e := Take(b, at); n != 0 || after != 0 || e != want {
		t.Errorf("Take(%v, %d) = %d, %d, %v, want %v", b, at, n, after, e, want)
	}
}

func checkAsPut(t *testing.T, b []byte) {
	t.Helper()
	n, end, e := Take(b, 0)
	if e == api.OK && (end > len(b) || !bytes.Equal(Put(nil, n), b[:max(end, 0)])) {
		t.Errorf("Take(%v, 0) = %d, %d, but Put of it is %v", b, n, end, Put(nil, n))
	}
	if e != api.OK && (n != 0 || end != 0) {
		t.Errorf("Take(%v, 0) = %d, %d with %v", b, n, end, e)
	}
}
