package crc

import (
	"bytes"
	"hash/crc32"
	"math"
	"math/bits"
	"strings"
	"testing"
)

// published are the strings whose checksums the chapter, RFC 3720 and the test suites of others give.
var published = []struct {
	name string
	b    []byte
	want uint32
}{
	{"nil", nil, 0},
	{"no bytes", []byte{}, 0},
	{"123456789", []byte("123456789"), 0xe3069283},
	{"a", []byte("a"), 0xc1d04330},
	{"abc", []byte("abc"), 0x364b3fb7},
	{"the fox", []byte("The quick brown fox jumps over the lazy dog"), 0x22620404},
	{"a byte 0", []byte{0}, 0x527d5351},
	{"a byte 255", []byte{255}, 0xff000000},
	{"4 bytes 255", bytes.Repeat([]byte{255}, 4), 0xffffffff},
	{"32 bytes 0", make([]byte, 32), 0x8a9136aa},
	{"32 bytes 255", bytes.Repeat([]byte{255}, 32), 0x62a8ab43},
	{"32 bytes upwards", counted(0, 1), 0x46dd794e},
	{"32 bytes downwards", counted(31, -1), 0x113fdb5c},
	{"a SCSI command", []byte{
		1, 0xc0, 0, 0, 0, 0, 0, 0, 0, 0, 0, 0, 0, 0, 0, 0, 0x14, 0, 0, 0, 0, 0, 4, 0,
		0, 0, 0, 0x14, 0, 0, 0, 0x18, 0x28, 0, 0, 0, 0, 0, 0, 0, 2, 0, 0, 0, 0, 0, 0, 0,
	}, 0xd9963a56},
}

// sums are some checksums to go on from, those of no bytes and of four bytes 255 among them.
var sums = []uint32{0, 1, 2, 8, 15, 16, 1 << 31, 1<<31 - 1, math.MaxUint32, math.MaxUint32 - 1, 0x82f63b78, 0x7d09c487, 0xe3069283, 0x55555555, 0xaaaaaaaa, 0xf0f0f0f0, 0x0f0f0f0f}

var castagnoli = crc32.MakeTable(crc32.Castagnoli)

// P5.1: published checksums.
func TestSum(t *testing.T) {
	for _, c := range published {
		if got := Sum(c.b); got != c.want {
			t.Errorf("%s: %#08x, want %#08x", c.name, got, c.want)
		}
	}
}

// P5.1: each byte alone, and behind and ahead of others.
func TestSumOfEachByte(t *testing.T) {
	for i := range 256 {
		c := byte(i)
		for _, b := range [][]byte{{c}, {0, c}, {c, 0}, {255, c}, {c, 255}, {c, c}, {7, c, 200}, bytes.Repeat([]byte{c}, 9)} {
			checkSum(t, b)
		}
	}
}

// P5.1: every string of two bytes.
func TestSumOfTwoBytes(t *testing.T) {
	for i := range 1 << 16 {
		checkSum(t, []byte{byte(i >> 8), byte(i)})
	}
}

// P5.1: every length up to 300, of bytes that are all zeros, all ones, and mixed.
func TestSumOfEachLength(t *testing.T) {
	for size := range 301 {
		for _, b := range [][]byte{make([]byte, size), bytes.Repeat([]byte{255}, size), bytes.Repeat([]byte{128}, size), bytes.Repeat([]byte{1}, size), sample(size)} {
			checkSum(t, b)
		}
	}
}

// P5.1: the bits are taken in their order: a single bit, in each place among zeros, has a checksum of its own.
func TestSumOfEachBit(t *testing.T) {
	const size = 40
	found := map[uint32]int{}
	for bit := range 8 * size {
		b := make([]byte, size)
		invert(b, bit)
		checkSum(t, b)
		if other, twice := found[Sum(b)]; twice {
			t.Errorf("bits %d and %d have the same checksum", other, bit)
		}
		found[Sum(b)] = bit
	}
}

// P5.1: many bytes.
func TestSumOfManyBytes(t *testing.T) {
	for _, size := range []int{4095, 4096, 65535, 65536, 65537, 1 << 20, 1<<22 + 3} {
		b := sample(size)
		if got, want := Sum(b), crc32.Checksum(b, castagnoli); got != want {
			t.Errorf("%d bytes: %#08x, want %#08x", size, got, want)
		}
	}
}

// P5.2: the chapter's example, with each of its cuts.
func TestMore(t *testing.T) {
	all := []byte("123456789")
	for cut := range len(all) + 1 {
		if got := More(Sum(all[:cut]), all[cut:]); got != 0xe3069283 {
			t.Errorf("cut at %d: %#08x", cut, got)
		}
	}
}

// P5.2: each string that has a published checksum, cut at its beginning, its end and each place between.
func TestMoreAtEachCut(t *testing.T) {
	for _, c := range published {
		for cut := range len(c.b) + 1 {
			if got := More(Sum(c.b[:cut]), c.b[cut:]); got != c.want {
				t.Errorf("%s, cut at %d: %#08x, want %#08x", c.name, cut, got, c.want)
			}
		}
	}
}

// P5.2: two cuts, wherever they are.
func TestMoreAtTwoCuts(t *testing.T) {
	all := sample(70)
	want := crc32.Checksum(all, castagnoli)
	for first := range len(all) + 1 {
		for second := first; second <= len(all); second++ {
			sum := More(Sum(all[:first]), all[first:second])
			if got := More(sum, all[second:]); got != want {
				t.Errorf("cuts at %d, %d: %#08x, want %#08x", first, second, got, want)
			}
		}
	}
}

// P5.2: pieces of each size, down to single bytes; every sum on the way is that of the bytes so far.
func TestMoreInPieces(t *testing.T) {
	all := sample(200)
	for step := 1; step <= len(all); step++ {
		sum := Sum(nil)
		for at := 0; at < len(all); at += step {
			end := min(at+step, len(all))
			sum = More(sum, all[at:end])
			if want := crc32.Checksum(all[:end], castagnoli); sum != want {
				t.Errorf("pieces of %d, up to %d: %#08x, want %#08x", step, end, sum, want)
			}
		}
	}
}

// P5.2: no bytes more leave any checksum as it is.
func TestMoreOfNothing(t *testing.T) {
	for _, sum := range sums {
		for _, b := range [][]byte{nil, {}, sample(9)[4:4]} {
			if got := More(sum, b); got != sum {
				t.Errorf("More(%#08x, no bytes) = %#08x", sum, got)
			}
		}
	}
}

// P5.2: every number is the checksum of some bytes, so More goes on from each; of a single byte, each follows.
func TestMoreFromAnySum(t *testing.T) {
	for _, sum := range sums {
		before := bytesWithSum(t, sum)
		for i := range 256 {
			checkMore(t, sum, before, []byte{byte(i)})
		}
		for size := range 40 {
			checkMore(t, sum, before, make([]byte, size))
			checkMore(t, sum, before, bytes.Repeat([]byte{255}, size))
			checkMore(t, sum, before, sample(size))
		}
	}
}

// P5.2: each bit of the checksum counts, and in its own place.
func TestMoreOfEachBitOfTheSum(t *testing.T) {
	for _, b := range [][]byte{{0}, {255}, {129}, sample(4), sample(33)} {
		for bit := range 32 {
			for _, sum := range sums {
				changed := sum ^ 1<<bit
				if More(sum, b) == More(changed, b) {
					t.Errorf("More(%#08x, %v) and More(%#08x, ..) are the same", sum, b, changed)
				}
				checkMore(t, changed, bytesWithSum(t, changed), b)
			}
		}
	}
}

// P5.3: each bit alone, the first and the last one among them.
func TestOneInvertedBit(t *testing.T) {
	for size := 1; size <= 70; size++ {
		for bit := range 8 * size {
			checkInverted(t, sample(size), bit, 1)
			checkInverted(t, make([]byte, size), bit, 1)
			checkInverted(t, bytes.Repeat([]byte{255}, size), bit, 1)
		}
	}
}

// P5.3: all patterns within one byte, and over the end of one.
func TestInvertedBitsOfBytes(t *testing.T) {
	for _, b := range [][]byte{sample(1), sample(2), sample(3), sample(9), make([]byte, 5), bytes.Repeat([]byte{255}, 5)} {
		for pattern := uint64(1); pattern < 1<<8; pattern++ {
			for first := 0; first+8 <= 8*len(b); first++ {
				checkInverted(t, b, first, pattern)
			}
		}
	}
}

// P5.3: all patterns of two bytes, at the beginning, in the midst, and at the end.
func TestInvertedBitsOfTwoBytes(t *testing.T) {
	b := sample(6)
	for pattern := uint64(1); pattern < 1<<16; pattern++ {
		for _, first := range []int{0, 5, 12, 16, 32} {
			checkInverted(t, b, first, pattern)
		}
	}
}

// P5.3: two bits, as far from each other as 32 consecutive bits reach, in each place.
func TestTwoInvertedBits(t *testing.T) {
	for _, b := range [][]byte{sample(4), sample(5), sample(40), make([]byte, 40), bytes.Repeat([]byte{255}, 40)} {
		for distance := 1; distance <= 31; distance++ {
			for first := 0; first+distance < 8*len(b); first++ {
				checkInverted(t, b, first, 1|1<<distance)
			}
		}
	}
}

// P5.3: runs of inverted bits, of each width up to 32 and in each place, whole, with gaps, and mixed; and the patterns that are the rule's own number.
func TestInvertedRuns(t *testing.T) {
	b := sample(40)
	for width := 1; width <= 32; width++ {
		whole := uint64(1)<<width - 1
		ends := 1 | uint64(1)<<(width-1)
		for _, mask := range []uint64{whole, 0x55555555, 0xaaaaaaaa, 0x82f63b78, 0x7d09c487, 0x1edc6f41, 0x05ec76f1, 0xdeadbeef, 0x00ff00ff, 0x0f0f0f0f} {
			for first := 0; first+width <= 8*len(b); first++ {
				checkInverted(t, b, first, mask&whole|ends)
			}
		}
	}
}

// P5.3: all patterns of 32 consecutive bits, in each place. They are too many to be tried, but what inverted bits do to a checksum is the exclusive or of what each of them does; so no pattern leaves it as it is, if none of the 32 changes is an exclusive or of others.
func TestInvertedBitsAreIndependent(t *testing.T) {
	for _, b := range [][]byte{sample(4), sample(5), sample(64), make([]byte, 300)} {
		for first := 0; first+32 <= 8*len(b); first++ {
			var changes []uint32
			for bit := range 32 {
				changes = append(changes, change(b, first+bit, 1))
			}
			if got := rank(changes); got != 32 {
				t.Errorf("%d bytes, bits from %d on: %d of 32 changes are independent", len(b), first, got)
			}
		}
	}
}

// P5.3: what the test above rests on, for patterns of all kinds: a pattern's change is the exclusive or of its bits' changes.
func TestChangesAreJoined(t *testing.T) {
	b := sample(24)
	pattern := uint64(1)
	for range 300 {
		pattern = pattern*6364136223846793005 + 1442695040888963407
		for first := 0; first+32 <= 8*len(b); first += 7 {
			joined := uint32(0)
			for bit := range 32 {
				if pattern>>32>>bit&1 == 1 {
					joined ^= change(b, first+bit, 1)
				}
			}
			if got := change(b, first, pattern>>32); got != joined {
				t.Errorf("pattern %#x at %d: %#08x, want %#08x", pattern>>32, first, got, joined)
			}
		}
	}
}

// P5.3: in strings that are made in pieces the change is there as well, if it is in the first, in the second, or over the cut.
func TestInvertedBitsOfPieces(t *testing.T) {
	const size = 12
	for cut := range size + 1 {
		was := sample(size)
		for first := 0; first+32 <= 8*size; first++ {
			for _, pattern := range []uint64{1, 1 << 31, 1 | 1<<31, math.MaxUint32, 0x82f63b78, 0x10000001} {
				b := inverted(was, first, pattern)
				if More(Sum(b[:cut]), b[cut:]) == Sum(was) {
					t.Errorf("cut at %d, pattern %#x at %d: the checksum is the same", cut, pattern, first)
				}
			}
		}
	}
}

// R3: neither an argument nor the room behind it is changed, and what lies behind the end is not read.
func TestArgumentsStay(t *testing.T) {
	for size := range 20 {
		room := sample(30)
		sum := Sum(room[:size])
		more := More(7, room[:size])
		if !bytes.Equal(room, sample(30)) {
			t.Errorf("%d bytes: an argument became %v", size, room)
		}
		clear(room[size:])
		if Sum(room[:size]) != sum || More(7, room[:size]) != more {
			t.Errorf("%d bytes: what lies behind them counts", size)
		}
	}
}

// R4: an answer hangs on nothing that was asked for before.
func TestAnswersDoNotHangOnEarlierOnes(t *testing.T) {
	for range 3 {
		for _, c := range published {
			More(0xffffffff, sample(50))
			if got := Sum(c.b); got != c.want {
				t.Errorf("%s: %#08x, want %#08x", c.name, got, c.want)
			}
			Sum([]byte(strings.Repeat("x", 17)))
			if got := More(0, c.b); got != c.want {
				t.Errorf("%s, by More: %#08x, want %#08x", c.name, got, c.want)
			}
		}
	}
}

// sample answers so many bytes that follow a rule.
func sample(size int) []byte {
	b := make([]byte, size)
	for i := range b {
		b[i] = byte(i*i*7 + i*31 + i>>8 + 11)
	}
	return b
}

// counted answers 32 bytes, each so much greater than the one before.
func counted(first, step int) []byte {
	var b []byte
	for i := range 32 {
		b = append(b, byte(first+i*step))
	}
	return b
}

// byBits answers the checksum as the chapter's words have it, bit by bit.
func byBits(b []byte) uint32 {
	register := uint32(math.MaxUint32)
	for _, c := range b {
		for bit := range 8 {
			out := register & 1
			register >>= 1
			if out^uint32(c)>>bit&1 == 1 {
				register ^= 0x82f63b78
			}
		}
	}
	return ^register
}

// bytesWithSum answers the four bytes that have a checksum: the register is run backwards from it, which is possible because only the rule's number has the highest bit.
func bytesWithSum(t *testing.T, sum uint32) []byte {
	t.Helper()
	register := ^sum
	for range 32 {
		if register>>31 == 1 {
			register = (register^0x82f63b78)<<1 | 1
		} else {
			register <<= 1
		}
	}
	register = ^register
	b := []byte{byte(register), byte(register >> 8), byte(register >> 16), byte(register >> 24)}
	if byBits(b) != sum {
		t.Fatalf("%v has not the checksum %#08x", b, sum)
	}
	return b
}

// inverted answers a copy of b in which the bits of a pattern are inverted, its lowest one at bit first.
func inverted(b []byte, first int, pattern uint64) []byte {
	out := bytes.Clone(b)
	for ; pattern != 0; pattern &= pattern - 1 {
		invert(out, first+bits.TrailingZeros64(pattern))
	}
	return out
}

func invert(b []byte, bit int) { b[bit/8] ^= 1 << (bit % 8) }

// change answers the bits of the checksum that a pattern changes.
func change(b []byte, first int, pattern uint64) uint32 {
	return Sum(b) ^ Sum(inverted(b, first, pattern))
}

// rank answers how many of the numbers are no exclusive or of others.
func rank(numbers []uint32) int {
	var byTop [33]uint32
	count := 0
	for _, n := range numbers {
		for n != 0 && byTop[bits.Len32(n)] != 0 {
			n ^= byTop[bits.Len32(n)]
		}
		if n != 0 {
			byTop[bits.Len32(n)] = n
			count++
		}
	}
	return count
}

func checkSum(t *testing.T, b []byte) {
	t.Helper()
	if got, want := Sum(b), byBits(b); got != want || want != crc32.Checksum(b, castagnoli) {
		t.Errorf("Sum(%v) = %#08x, want %#08x", b, got, want)
	}
}

func checkMore(t *testing.T, sum uint32, before, b []byte) {
	t.Helper()
	if got, want := More(sum, b), byBits(append(bytes.Clone(before), b...)); got != want {
		t.Errorf("More(%#08x, %v) = %#08x, want %#08x", sum, b, got, want)
	}
}

func checkInverted(t *testing.T, b []byte, first int, pattern uint64) {
	t.Helper()
	if change(b, first, pattern) == 0 {
		t.Errorf("%v: pattern %#x at bit %d leaves the checksum as it is", b, pattern, first)
	}
}
