package fixed

import (
	"bytes"
	"math"
	"strings"
	"testing"
)

var wrongSizes = []int{0, 9, -1, 16, 256, 1 << 32, math.MinInt, math.MaxInt}

// P1.1: ordinary numbers, and numbers that are cut to their size.
func TestPut(t *testing.T) {
	cases := []struct {
		b    []byte
		n    uint64
		size int
		want []byte
	}{
		{[]byte{7}, 1<<32 + 258, 4, []byte{7, 2, 1, 0, 0}},
		{nil, 258, 4, []byte{2, 1, 0, 0}},
		{[]byte{}, 0, 1, []byte{0}},
		{nil, 255, 1, []byte{255}},
		{nil, 256, 1, []byte{0}},
		{nil, 0x1234, 1, []byte{0x34}},
		{nil, 65536, 2, []byte{0, 0}},
		{[]byte{1, 2, 3}, 0x0807060504030201, 3, []byte{1, 2, 3, 1, 2, 3}},
		{nil, 0x0807060504030201, 7, []byte{1, 2, 3, 4, 5, 6, 7}},
		{nil, 0x0807060504030201, 8, []byte{1, 2, 3, 4, 5, 6, 7, 8}},
		{nil, 1, 8, []byte{1, 0, 0, 0, 0, 0, 0, 0}},
		{nil, math.MaxUint64, 8, bytes.Repeat([]byte{255}, 8)},
	}
	for _, c := range cases {
		if got := Put(c.b, c.n, c.size); !bytes.Equal(got, c.want) {
			t.Errorf("Put(%v, %#x, %d) = %v, want %v", c.b, c.n, c.size, got, c.want)
		}
	}
}

// P1.1: a size that is not from 1 to 8 appends nothing.
func TestPutWrongSize(t *testing.T) {
	for _, size := range wrongSizes {
		for _, b := range [][]byte{nil, {}, {7}, {1, 2, 3}} {
			if got := Put(b, math.MaxUint64, size); !bytes.Equal(got, b) {
				t.Errorf("Put(%v, .., %d) = %v", b, size, got)
			}
		}
	}
}

// P1.1: numbers at the beginning, in the midst and at the end of bytes.
func TestTake(t *testing.T) {
	b := []byte{7, 2, 1, 0, 0, 0x80, 0x90, 0xff, 0xfe}
	cases := []struct {
		at, size int
		want     uint64
	}{
		{0, 1, 7},
		{1, 2, 258},
		{1, 4, 258},
		{0, 3, 0x010207},
		{5, 1, 0x80},
		{5, 4, 0xfeff9080},
		{8, 1, 0xfe},
		{2, 7, 0xfeff9080000001},
		{0, 8, 0xff90800000010207},
		{1, 8, 0xfeff908000000102},
	}
	for _, c := range cases {
		if got, ok := Take(b, c.at, c.size); !ok || got != c.want {
			t.Errorf("Take at %d, size %d = %#x, %v, want %#x", c.at, c.size, got, ok, c.want)
		}
	}
}

// P1.1: each place and size at which a number is not whole.
func TestTakeOutside(t *testing.T) {
	b := []byte{9, 9, 9, 9, 9, 9, 9, 9, 9, 9, 9, 9}
	places := []int{math.MinInt, math.MinInt + 1, math.MinInt32, -9, -8, -2, -1, 12, 13, 20, math.MaxInt32, math.MaxInt - 8, math.MaxInt - 1, math.MaxInt}
	for size := 1; size <= 8; size++ {
		for _, at := range places {
			checkNoNumber(t, b, at, size)
		}
		checkNoNumber(t, b, len(b)-size+1, size)
		checkNoNumber(t, b[:size-1], 0, size)
		checkNoNumber(t, nil, 0, size)
	}
}

// P1.1: a wrong size is no number, wherever it is asked for.
func TestTakeWrongSize(t *testing.T) {
	b := bytes.Repeat([]byte{9}, 300)
	for _, size := range wrongSizes {
		for _, at := range []int{math.MinInt, -1, 0, 1, 8, len(b), len(b) + 1, math.MaxInt} {
			checkNoNumber(t, b, at, size)
			checkNoNumber(t, nil, at, size)
		}
	}
}

func checkNoNumber(t *testing.T, b []byte, at, size int) {
	t.Helper()
	if n, ok := Take(b, at, size); ok || n != 0 {
		t.Errorf("Take of %d bytes at %d, size %d = %d, %v", len(b), at, size, n, ok)
	}
}

// P1.2: strings of the lengths at the edges, and of bytes that are no text.
func TestPutText(t *testing.T) {
	for _, b := range [][]byte{nil, {}, {7}, {1, 2, 3, 4, 5}} {
		for _, s := range []string{"", "a", "abc", "\x00\xff\n", "äö", strings.Repeat("x", 254), strings.Repeat("y", 255)} {
			want := append(bytes.Clone(b), byte(len(s)))
			want = append(want, s...)
			if got, ok := PutText(b, s); !ok || !bytes.Equal(got, want) {
				t.Errorf("PutText(%v, %q) = %v, %v", b, s, got, ok)
			}
		}
	}
}

// P1.2: a string of more than 255 bytes, even if it has fewer runes, appends nothing.
func TestPutTextTooLong(t *testing.T) {
	for _, b := range [][]byte{nil, {7}, {1, 2, 3}} {
		for _, s := range []string{strings.Repeat("x", 256), strings.Repeat("x", 257), strings.Repeat("x", 512), strings.Repeat("ä", 128), strings.Repeat("x", 1<<16)} {
			if got, ok := PutText(b, s); ok || !bytes.Equal(got, b) {
				t.Errorf("PutText(%v, %d bytes) = %v, %v", b, len(s), got, ok)
			}
		}
	}
}

// P1.2: strings at the beginning, in the midst and at the end of bytes.
func TestTakeText(t *testing.T) {
	long := append([]byte{5, 255}, bytes.Repeat([]byte{200}, 255)...)
	cases := []struct {
		b    []byte
		at   int
		want string
		end  int
	}{
		{[]byte{2, 'a', 'b', 'c'}, 0, "ab", 3},
		{[]byte{0, 0, 0, 0, 0, 3, 'a', 'b', 'c'}, 5, "abc", 9},
		{[]byte{0}, 0, "", 1},
		{[]byte{1, 1, 0}, 1, "\x00", 3},
		{[]byte{1, 1, 0}, 2, "", 3},
		{long, 1, strings.Repeat("\xc8", 255), 257},
	}
	for _, c := range cases {
		if s, end, ok := TakeText(c.b, c.at); !ok || s != c.want || end != c.end {
			t.Errorf("TakeText(%v, %d) = %q, %d, %v", c.b, c.at, s, end, ok)
		}
	}
}

// P1.2: a string that is not whole, or a place that is not in the bytes.
func TestTakeTextOutside(t *testing.T) {
	short := []byte{3, 'a', 'b'}
	for _, at := range []int{math.MinInt, -2, -1, 0, 1, 2, 3, 4, math.MaxInt - 1, math.MaxInt} {
		checkNoText(t, short, at)
	}
	for _, at := range []int{math.MinInt, -1, 0, 1, math.MaxInt} {
		checkNoText(t, nil, at)
	}
	checkNoText(t, []byte{1}, 0)
	for length := 1; length <= 255; length++ {
		whole := append([]byte{byte(length)}, make([]byte, length)...)
		checkNoText(t, whole[:length], 0)
	}
}

func checkNoText(t *testing.T, b []byte, at int) {
	t.Helper()
	if s, end, ok := TakeText(b, at); ok || s != "" || end != 0 {
		t.Errorf("TakeText(%v, %d) = %q, %d, %v", b, at, s, end, ok)
	}
}

// P1.3: what was put is taken, whatever stands before and behind it.
func TestNumbersComeBack(t *testing.T) {
	numbers := []uint64{0, 1, 127, 128, 255, 256, 65535, 65536, 1<<32 - 1, 1 << 32, 1<<63 - 1, 1 << 63, math.MaxUint64, 0x123456789abcdef0}
	for size := 1; size <= 8; size++ {
		for _, before := range [][]byte{nil, {1, 2, 3}, bytes.Repeat([]byte{255}, 20)} {
			for _, n := range numbers {
				b := Put(Put(before, n, size), math.MaxUint64, 8)
				want := n
				if size < 8 {
					want = n % (1 << (8 * size))
				}
				if got, ok := Take(b, len(before), size); !ok || got != want {
					t.Errorf("size %d, %#x: %#x, %v", size, n, got, ok)
				}
				if !bytes.Equal(b[:len(before)], before) {
					t.Errorf("size %d, %#x: changed %v", size, n, before)
				}
			}
		}
	}
}

// P1.3: each length of a string comes back, one string behind the other.
func TestTextsComeBack(t *testing.T) {
	text := func(length int) string { return strings.Repeat(string([]byte{byte(length)}), length) }
	b := []byte{9, 9}
	for length := 0; length <= 255; length++ {
		longer, ok := PutText(b, text(length))
		if !ok || !bytes.Equal(longer[:len(b)], b) {
			t.Fatalf("length %d: %v", length, ok)
		}
		b = longer
	}
	at := 2
	for length := 0; length <= 255; length++ {
		s, end, ok := TakeText(b, at)
		if !ok || s != text(length) || end != at+1+length {
			t.Fatalf("length %d: %q, %d, %v", length, s, end, ok)
		}
		at = end
	}
	checkNoText(t, b, at)
}

// P1.3, R3: neither an argument, nor the room behind it, nor what an earlier call answered is changed.
func TestArgumentsStay(t *testing.T) {
	room := []byte{1, 2, 3, 4, 5, 6, 7, 8, 9, 10}
	was := bytes.Clone(room)
	b := room[:2]
	first := Put(b, 0xaaaa, 2)
	second := Put(b, 0xbbbb, 2)
	third, _ := PutText(b, "ab")
	fourth, _ := PutText(b, "cd")
	Put(b, 1, 9)
	PutText(b, strings.Repeat("x", 256))
	if !bytes.Equal(room, was) {
		t.Errorf("the argument became %v", room)
	}
	for _, c := range []struct{ got, want []byte }{
		{first, []byte{1, 2, 0xaa, 0xaa}},
		{second, []byte{1, 2, 0xbb, 0xbb}},
		{third, []byte{1, 2, 2, 'a', 'b'}},
		{fourth, []byte{1, 2, 2, 'c', 'd'}},
	} {
		if !bytes.Equal(c.got, c.want) {
			t.Errorf("an answer became %v, want %v", c.got, c.want)
		}
	}
}

// R3: an answer shares no memory with the bytes that were handed in.
func TestAnswersAreNewMemory(t *testing.T) {
	b := []byte{1, 2, 3}
	put := Put(b, 4, 1)
	same := Put(b, 4, 0)
	texted, _ := PutText(b, "a")
	untexted, _ := PutText(b, strings.Repeat("x", 256))
	for i, out := range [][]byte{put, same, texted, untexted} {
		out[0] = 99
		if b[0] != 1 {
			t.Errorf("answer %d shares memory with the argument", i)
			b[0] = 1
		}
	}
	text := []byte{1, 'a'}
	taken, _, _ := TakeText(text, 0)
	text[1] = 'b'
	if taken != "a" {
		t.Errorf("the text became %q", taken)
	}
}
