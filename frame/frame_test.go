package frame

import (
	"bytes"
	"encoding/binary"
	"hash/crc32"
	"math"
	"math/rand/v2"
	"slices"
	"strings"
	"testing"

	"stillage/api"
)

// written are frames that were computed by another program, with blanks between the parts: the kind, the sequence number, the number of bytes, the checksum of the head, the data, and the last checksum.
var written = []struct {
	kind int
	seq  uint64
	data string
	want string
}{
	{3, 1<<40 + 5, "data", "\x03 \x05\x00\x00\x00\x00\x01\x00\x00 \x04\x00\x00\x00 \x80\x74\xba\x0a data \x9c\x84\x97\x6a"},
	{1, 0, "", "\x01 \x00\x00\x00\x00\x00\x00\x00\x00 \x00\x00\x00\x00 \x81\x9d\x89\x8c  \xc7\x4b\x67\x48"},
	{8, 0, "", "\x08 \x00\x00\x00\x00\x00\x00\x00\x00 \x00\x00\x00\x00 \x3d\x10\x26\x3f  \xc7\x4b\x67\x48"},
	{0, 0, "", "\x00 \x00\x00\x00\x00\x00\x00\x00\x00 \x00\x00\x00\x00 \xe4\xa5\x5b\xbc  \xc7\x4b\x67\x48"},
	{255, math.MaxUint64, "", "\xff \xff\xff\xff\xff\xff\xff\xff\xff \x00\x00\x00\x00 \x00\x06\x8d\x1b  \xc7\x4b\x67\x48"},
	{2, 0x0807060504030201, "\x00", "\x02 \x01\x02\x03\x04\x05\x06\x07\x08 \x01\x00\x00\x00 \xcf\x9e\xf4\xc2 \x00 \x35\x76\x72\x45"},
	{5, 1, "abcabcabc", "\x05 \x01\x00\x00\x00\x00\x00\x00\x00 \x09\x00\x00\x00 \x7b\x61\xb1\x55 abcabcabc \xa3\xb0\xb4\x79"},
}

// P13.1: frames that were computed elsewhere, the example of the chapter first.
func TestMake(t *testing.T) {
	for _, c := range written {
		want := strings.ReplaceAll(c.want, " ", "")
		if got := Make(c.kind, c.seq, []byte(c.data)); string(got) != want {
			t.Errorf("Make(%d, %d, %q): % x, want % x", c.kind, c.seq, c.data, got, want)
		}
		if got := Size(len(c.data)); got != len(want) {
			t.Errorf("Size(%d): %d, want %d", len(c.data), got, len(want))
		}
	}
}

// P13.1: the kind is taken modulo 256, also below 0.
func TestMakeOfAnyKind(t *testing.T) {
	for _, c := range []struct {
		kind int
		want byte
	}{
		{0, 0}, {1, 1}, {8, 8}, {9, 9}, {127, 127}, {128, 128}, {255, 255}, {256, 0}, {257, 1}, {511, 255}, {512, 0}, {1 << 32, 0}, {1<<32 + 3, 3},
		{-1, 255}, {-2, 254}, {-128, 128}, {-255, 1}, {-256, 0}, {-257, 255}, {-1 << 32, 0}, {math.MinInt, 0}, {math.MinInt + 7, 7}, {math.MaxInt, 255}, {math.MaxInt - 255, 0},
	} {
		if got := Make(c.kind, 1, nil); got[0] != c.want {
			t.Errorf("kind %d: %d, want %d", c.kind, got[0], c.want)
		}
		checkMake(t, c.kind, 0, nil)
		checkMake(t, c.kind, 1<<40+5, []byte("data"))
		checkMake(t, c.kind, math.MaxUint64, []byte{0})
	}
	for kind := -600; kind <= 600; kind++ {
		checkMake(t, kind, 77, []byte("x"))
	}
}

// P13.1: any sequence number, also those that no log has.
func TestMakeOfAnySeq(t *testing.T) {
	for _, seq := range seqs() {
		checkMake(t, 1, seq, nil)
		checkMake(t, 8, seq, []byte("data"))
		checkMake(t, 0, seq, make([]byte, 300))
	}
}

// P13.1: data of any size, also more than Parse takes, and of any bytes.
func TestMakeOfAnyData(t *testing.T) {
	for size := range 300 {
		checkMake(t, 1, 1, pattern(size))
		checkMake(t, 2, 3, make([]byte, size))
	}
	for _, size := range sizes() {
		checkMake(t, 3, 9, pattern(size))
	}
	for c := range 256 {
		checkMake(t, 4, 5, []byte{byte(c)})
		checkMake(t, 4, 5, bytes.Repeat([]byte{byte(c)}, 21))
	}
	within := Make(1, 2, Make(3, 4, Make(5, 6, nil)))
	checkMake(t, 7, 8, within)
	checkMake(t, 7, 8, append(within, within...))
}

// P13.1: nil and empty data are equivalent.
func TestMakeOfNoData(t *testing.T) {
	for kind := range 10 {
		none, empty := Make(kind, 6, nil), Make(kind, 6, []byte{})
		if len(none) != 21 || !bytes.Equal(none, empty) {
			t.Errorf("kind %d: % x and % x", kind, none, empty)
		}
	}
}

// P13.1: Size is n + 21 for every n, and the length that a frame has.
func TestSize(t *testing.T) {
	for _, c := range [][2]int{
		{0, 21}, {1, 22}, {4, 25}, {-1, 20}, {-20, 1}, {-21, 0}, {-22, -1}, {235, 256}, {api.MaxSeg, 65557}, {api.MaxSeg + 1, 65558}, {math.MaxInt32, math.MaxInt32 + 21},
		{math.MinInt, math.MinInt + 21}, {math.MaxInt - 21, math.MaxInt}, {math.MaxInt, math.MinInt + 20},
	} {
		if got := Size(c[0]); got != c[1] {
			t.Errorf("Size(%d): %d, want %d", c[0], got, c[1])
		}
	}
	for n := -1000; n <= 1000; n++ {
		if got := Size(n); got != n+21 {
			t.Errorf("Size(%d): %d", n, got)
		}
	}
	for _, size := range sizes() {
		if got := Size(size); got != len(Make(1, 1, make([]byte, size))) {
			t.Errorf("Size(%d): %d", size, got)
		}
	}
}

// P13.2, P13.3: Parse inverts Make for the kinds from 1 to 8, whatever kind modulo 256 was asked for.
func TestParseInvertsMake(t *testing.T) {
	for kind := 1; kind <= 8; kind++ {
		for _, seq := range seqs() {
			checkInverse(t, kind, seq, nil)
			checkInverse(t, kind, seq, []byte("data"))
		}
		for size := range 70 {
			checkInverse(t, kind, 1, pattern(size))
			checkInverse(t, kind, 1, make([]byte, size))
		}
		for _, size := range sizes() {
			if size <= api.MaxSeg {
				checkInverse(t, kind, 1<<63, pattern(size))
			}
		}
		for _, more := range []int{256, -256, 1 << 32, -1 << 40, math.MinInt} {
			checkFrame(t, Make(kind+more, 4, []byte("x")), 0, Frame{Kind: kind, Seq: 4, Data: []byte("x"), End: 22})
		}
	}
	for c := range 256 {
		checkInverse(t, 5, 5, []byte{byte(c)})
	}
	checkInverse(t, 7, 8, Make(1, 2, Make(3, 4, nil)))
}

// P13.2: frames that were computed elsewhere are read.
func TestParse(t *testing.T) {
	for _, c := range written {
		b := []byte(strings.ReplaceAll(c.want, " ", ""))
		if c.kind < 1 || c.kind > 8 {
			checkFails(t, b, 0, api.ErrForm)
			continue
		}
		checkFrame(t, b, 0, Frame{Kind: c.kind, Seq: c.seq, Data: []byte(c.data), End: len(b)})
	}
}

// P13.2: a frame with any bytes ahead of it and behind it, which count for nothing.
func TestParseBetweenOthers(t *testing.T) {
	for _, data := range [][]byte{nil, []byte("d"), []byte("data"), pattern(300)} {
		b := Make(6, 1<<50, data)
		for _, ahead := range [][]byte{nil, {0}, {9, 9}, b[:20], b, pattern(1000)} {
			for _, behind := range [][]byte{nil, {0}, {7}, b[1:], b, make([]byte, 70), pattern(1000)} {
				all := slices.Concat(ahead, b, behind)
				checkFrame(t, all, len(ahead), Frame{Kind: 6, Seq: 1 << 50, Data: data, End: len(ahead) + len(b)})
			}
		}
	}
}

// P13.2: End is where the next frame begins; no other index has one.
func TestParseOfRows(t *testing.T) {
	var b []byte
	var starts []int
	var frames []Frame
	for i, size := range []int{4, 0, 1, 0, 0, 40, 17, 300, 2} {
		starts = append(starts, len(b))
		b = append(b, Make(i%8+1, uint64(i), pattern(size))...)
		frames = append(frames, Frame{Kind: i%8 + 1, Seq: uint64(i), Data: pattern(size), End: len(b)})
	}
	at := 0
	for i, f := range frames {
		checkFrame(t, b, at, f)
		checkFrame(t, b[:f.End], at, f)
		checkFails(t, b[:f.End-1], at, api.ErrShort)
		if at != starts[i] {
			t.Errorf("frame %d begins at %d, want %d", i, at, starts[i])
		}
		at = f.End
	}
	checkFails(t, b, at, api.ErrShort)
	checkFails(t, b, at+1, api.ErrArg)
	for at := -3; at <= len(b)+3; at++ {
		if got, err := Parse(b, at); (err == api.OK) != slices.Contains(starts, at) {
			t.Errorf("at %d: %v, %v", at, got, err)
		}
		checkParse(t, b, at)
	}
}

// P13.2: indexes outside of b are ErrArg, ahead of all else; its length is not.
func TestParseAtAnyIndex(t *testing.T) {
	b := Make(3, 1<<40+5, []byte("data"))
	bad := bytes.Repeat([]byte{1}, 40)
	for _, b := range [][]byte{nil, {}, b[:1], b[:16], b[:17], b[:24], b, append([]byte{9, 9, 9}, b...), append(b[:25:25], b...), bad, make([]byte, 16), make([]byte, 17), make([]byte, 21)} {
		n := len(b)
		for _, at := range []int{-1, -2, -16, -17, -21, -25, -n - 1, math.MinInt, math.MinInt + 1, math.MinInt + 17, math.MinInt32, n + 1, n + 2, n + 17, n + 21, n + 25, math.MaxInt32, math.MaxInt, math.MaxInt - 1, math.MaxInt - 16, math.MaxInt - 17, math.MaxInt - 21} {
			checkFails(t, b, at, api.ErrArg)
		}
		checkFails(t, b, n, api.ErrShort)
		for left := range 17 {
			if left <= n {
				checkFails(t, b, n-left, api.ErrShort)
			}
		}
		for at := range n {
			checkParse(t, b, at)
		}
	}
	checkFails(t, b, 26, api.ErrArg)
}

// P13.2: no more than what is left counts, so that memory behind b is not taken for a frame.
func TestParseOfLess(t *testing.T) {
	for _, data := range [][]byte{nil, []byte("d"), []byte("data"), pattern(300)} {
		for _, ahead := range []int{0, 1, 30} {
			all := append(make([]byte, ahead), Make(2, 5, data)...)
			all = append(all, Make(1, 6, nil)...)
			for n := range len(all) - 21 {
				at := min(ahead, n)
				checkFails(t, all[:n], at, api.ErrShort)
				checkFails(t, slices.Clip(all[:n]), at, api.ErrShort)
			}
		}
	}
}

// P13.2: kinds that no frame has are ErrForm, with the right checksums.
func TestParseOfAnyKind(t *testing.T) {
	for kind := range 256 {
		for _, data := range [][]byte{nil, []byte("data")} {
			b := Make(kind, 5, data)
			if kind >= 1 && kind <= 8 {
				checkFrame(t, b, 0, Frame{Kind: kind, Seq: 5, Data: data, End: len(b)})
				continue
			}
			checkFails(t, b, 0, api.ErrForm)
			checkFails(t, append([]byte{1, 2, 3}, b...), 3, api.ErrForm)
		}
	}
}

// P13.2: MaxSeg bytes of data may be, and not one more, whether they are there or not.
func TestParseOfAnySize(t *testing.T) {
	for _, size := range []uint32{api.MaxSeg + 1, api.MaxSeg + 2, 2 * api.MaxSeg, 1 << 17, 1 << 24, 1<<24 + 1, 1 << 31, 1<<31 - 1, 1<<31 + 1, math.MaxUint32 - 20, math.MaxUint32 - 21, math.MaxUint32 - 16, math.MaxUint32 - 1, math.MaxUint32} {
		for _, behind := range []int{0, 1, 3, 4, 5, 100, api.MaxSeg + 3, api.MaxSeg + 4, api.MaxSeg + 5, 2*api.MaxSeg + 4} {
			checkFails(t, append(headOf(4, 5, size), make([]byte, behind)...), 0, api.ErrForm)
		}
		if size <= 1<<17 {
			checkFails(t, Make(4, 5, make([]byte, size)), 0, api.ErrForm)
			checkFails(t, append([]byte{0}, Make(4, 5, pattern(int(size)))...), 1, api.ErrForm)
		}
	}
	for _, size := range []uint32{0, 1, 4, 255, 256, api.MaxSeg - 1, api.MaxSeg} {
		b := headOf(4, 5, size)
		for _, behind := range []int{0, 1, int(size), int(size) + 1, int(size) + 3} {
			if behind < int(size)+4 {
				checkFails(t, append(b, make([]byte, behind)...), 0, api.ErrShort)
			}
		}
		checkFails(t, append(b, make([]byte, size+4)...), 0, api.ErrSum)
		checkInverse(t, 4, 5, make([]byte, size))
	}
}

// P13.2: of two errors the first in the order of the chapter is answered.
func TestOrderOfErrors(t *testing.T) {
	short := func(b []byte) []byte { return b[:len(b)-1] }
	lastWrong := func(b []byte) []byte { return change(b, len(b)-1, 1) }
	headWrong := func(b []byte) []byte { return change(b, 13, 1) }
	for _, kind := range []int{0, 9, 255} {
		b := Make(kind, 1, []byte("data"))
		checkFails(t, headWrong(b), 0, api.ErrSum)
		checkFails(t, lastWrong(b), 0, api.ErrForm)
		checkFails(t, short(b), 0, api.ErrForm)
		checkFails(t, short(lastWrong(b)), 0, api.ErrForm)
		checkFails(t, b[:17], 0, api.ErrForm)
		checkFails(t, headWrong(b)[:17], 0, api.ErrSum)
		checkFails(t, b[:16], 0, api.ErrShort)
		checkFails(t, headWrong(b)[:16], 0, api.ErrShort)
		checkFails(t, b[:16], 17, api.ErrArg)
		checkFails(t, headOf(byte(kind), 1, api.MaxSeg+1), 0, api.ErrForm)
	}
	b := Make(3, 1, []byte("data"))
	checkFails(t, headWrong(b), 0, api.ErrSum)
	checkFails(t, short(headWrong(b)), 0, api.ErrSum)
	checkFails(t, headWrong(b)[:17], 0, api.ErrSum)
	checkFails(t, headWrong(b)[:16], 0, api.ErrShort)
	checkFails(t, headWrong(b)[:16], 17, api.ErrArg)
	checkFails(t, headWrong(b), 26, api.ErrArg)
	checkFails(t, headWrong(b), -1, api.ErrArg)
	checkFails(t, headWrong(lastWrong(b)), 0, api.ErrSum)
	checkFails(t, lastWrong(b), 0, api.ErrSum)
	checkFails(t, short(lastWrong(b)), 0, api.ErrShort)
	checkFails(t, b[:17], 0, api.ErrShort)
	large := headOf(3, 1, api.MaxSeg+1)
	checkFails(t, large, 0, api.ErrForm)
	checkFails(t, large[:16], 0, api.ErrShort)
	checkFails(t, change(large, 14, 128), 0, api.ErrSum)
	checkFails(t, large, 18, api.ErrArg)
}

// P13.2: a frame of which one byte is another one, in all 255 ways; where the data are taken for the head's, or the other way round, is seen as well.
func TestParseOfOtherBytes(t *testing.T) {
	for _, data := range []string{"", "\x00", "data"} {
		b := Make(3, 1<<40+5, []byte(data))
		for i := range b {
			for c := 1; c < 256; c++ {
				checkFails(t, change(b, i, byte(c)), 0, api.ErrSum)
			}
		}
	}
}

// P13.2: the last checksum is that of the head and the data, not that of a part of them.
func TestParseOfOtherSums(t *testing.T) {
	for _, data := range []string{"", "d", "data", "\x00\x00\x00\x00"} {
		b := Make(3, 7, []byte(data))
		body := b[:len(b)-4]
		for from := range body {
			for to := from; to <= len(body); to++ {
				for _, sum := range []uint32{sumOf(body[from:to]), ^sumOf(body[from:to])} {
					checkParse(t, binary.LittleEndian.AppendUint32(slices.Clone(body), sum), 0)
					checkParse(t, binary.BigEndian.AppendUint32(slices.Clone(body), sum), 0)
				}
			}
		}
		for from := range 13 {
			for to := from; to <= 13; to++ {
				head := binary.LittleEndian.AppendUint32(slices.Clone(b[:13]), sumOf(b[from:to]))
				all := append(head, data...)
				checkParse(t, binary.LittleEndian.AppendUint32(all, sumOf(all)), 0)
			}
		}
	}
}

// P13.2: bytes of every kind at every index, held against the words of the chapter.
func TestParseOfAnyBytes(t *testing.T) {
	r := rand.New(rand.NewPCG(13, 2))
	counts := map[api.Errno]int{}
	for range 30000 {
		b := anything(r)
		for range 4 {
			at := r.IntN(len(b)+3) - 1
			if r.IntN(2) == 0 {
				at = 0
			}
			counts[checkParse(t, b, at)]++
		}
	}
	for _, err := range []api.Errno{api.OK, api.ErrArg, api.ErrShort, api.ErrSum, api.ErrForm} {
		if counts[err] < 100 {
			t.Errorf("%v came up %d times only", err, counts[err])
		}
	}
}

// P13.3: any single inverted bit, also of a frame that has others around it; bits of those others count for nothing.
func TestInvertedBit(t *testing.T) {
	for _, size := range []int{0, 1, 4, 33} {
		for _, around := range []int{0, 5} {
			b, at, end := between(size, around)
			want, _ := Parse(b, at)
			for bit := range 8 * len(b) {
				c := inverted(b, bit, 1)
				if bit >= 8*at && bit < 8*end {
					checkFails(t, c, at, api.ErrSum)
					continue
				}
				checkFrame(t, c, at, want)
			}
		}
	}
	b := Make(1, 1, pattern(api.MaxSeg))
	for bit := 0; bit < 8*len(b); bit += 5003 {
		checkFails(t, inverted(b, bit, 1), 0, api.ErrSum)
	}
}

// P13.3: inverted bits within 32 consecutive ones at every place that reaches into the frame: over its first and its last byte, and over the border between head and data.
func TestInvertedBits(t *testing.T) {
	r := rand.New(rand.NewPCG(13, 3))
	var patterns []uint64
	for width := 2; width <= 32; width++ {
		run := uint64(1)<<width - 1
		patterns = append(patterns, run, 1|1<<(width-1), run&0x55555555, run&0xaaaaaaaa, run&0x0f0f0f0f, run&0xff00ff00)
	}
	for range 120 {
		patterns = append(patterns, uint64(r.Uint32()))
	}
	patterns = append(patterns, 0x82f63b78, 0x05ec76f1, 0x1db71064, 0xff0000ff, 0x80808080, 0x01010101)
	for _, size := range []int{0, 1, 4, 33} {
		b, at, end := between(size, 4)
		for first := 8*at - 31; first < 8*end; first++ {
			for _, p := range patterns {
				checkInverted(t, b, at, end, first, p)
			}
		}
	}
}

// P13.3: all patterns of 10 bits at every place of a frame.
func TestInvertedBitsInEachWay(t *testing.T) {
	b, at, end := between(4, 4)
	for first := 8*at - 9; first < 8*end; first++ {
		for p := range uint64(1 << 10) {
			checkInverted(t, b, at, end, first, p)
		}
	}
}

// P13.3: some inverted bits in the middle of the longest data, at their beginning, and at their end.
func TestInvertedBitsOfLongData(t *testing.T) {
	b, at, end := between(api.MaxSeg, 4)
	for _, first := range []int{8*at - 16, 8 * (at + 15), 8*(at+17) - 16, 8*(at+17) - 1, 8 * (at + 300), 8*(at+30000) + 3, 8*(end-4) - 16, 8*(end-4) - 1, 8*end - 32, 8*end - 16, 8*end - 1} {
		for _, p := range []uint64{1<<32 - 1, 1<<31 + 1, 0x82f63b78, 0xaaaaaaaa} {
			checkInverted(t, b, at, end, first, p)
		}
	}
}

// R3: what came in is as it was behind each call, with the memory behind it.
func TestArgumentsStay(t *testing.T) {
	for _, size := range []int{0, 1, 4, 300, api.MaxSeg} {
		room := pattern(size + 100)
		was := slices.Clone(room)
		b := Make(3, 5, room[:size])
		spoil(b)
		if !bytes.Equal(room, was) {
			t.Errorf("Make changed %d bytes of data, or what is behind them", size)
		}
	}
	for _, b := range wrongAndRight() {
		room := append(slices.Clone(b), pattern(100)...)
		was := slices.Clone(room)
		for at := -1; at <= len(b)+1; at++ {
			f, _ := Parse(room[:len(b)], at)
			spoil(f.Data)
			if !bytes.Equal(room, was) {
				t.Fatalf("Parse at %d changed % x, or what is behind it", at, b)
			}
		}
	}
}

// R3: an answer is of its own: what is done to the argument behind the call does not change it, nor what is done to another answer.
func TestAnswersAreNew(t *testing.T) {
	for _, size := range []int{0, 1, 4, 300} {
		data := pattern(size)
		first := Make(3, 5, data)
		want := slices.Clone(first)
		second := Make(3, 5, data)
		spoil(data)
		spoil(second)
		if !bytes.Equal(first, want) {
			t.Errorf("a frame of %d bytes of data was changed", size)
		}
		one, _ := Parse(first, 0)
		two, _ := Parse(first, 0)
		spoil(two.Data)
		spoil(first)
		if !bytes.Equal(one.Data, pattern(size)) {
			t.Errorf("%d bytes of data were changed", size)
		}
	}
}

// R4: the answers do not hang on earlier calls.
func TestAnswersDoNotHangOnEarlierOnes(t *testing.T) {
	all := wrongAndRight()
	for _, a := range all {
		for _, b := range all {
			checkParse(t, a, 0)
			checkParse(t, b, 0)
			checkMake(t, len(b), uint64(len(a)), a)
		}
	}
}

// seqs are sequence numbers: small ones, the greatest ones, those near each power of 2, and such whose bytes all differ.
func seqs() []uint64 {
	out := []uint64{0, 1, 2, 1<<40 + 5, math.MaxUint64, math.MaxUint64 - 1, 1<<64 - 1<<32, 0x0102030405060708, 0xf0e0d0c0b0a09080}
	for bit := range 64 {
		out = append(out, 1<<bit, 1<<bit-1, 1<<bit+1, ^(uint64(1) << bit))
	}
	return out
}

// sizes are those at which the number of bytes takes one byte more, and those near MaxSeg.
func sizes() []int {
	return []int{0, 1, 255, 256, 257, 1000, 65535, api.MaxSeg - 1, api.MaxSeg, api.MaxSeg + 1, api.MaxSeg + 255, 100000}
}

// pattern answers bytes of which no two near each other are alike.
func pattern(size int) []byte {
	out := make([]byte, size)
	for i := range out {
		out[i] = byte(i*i + 3*i + i>>8 + 100)
	}
	return out
}

// wrongAndRight are frames, and what is nearly one.
func wrongAndRight() [][]byte {
	b := Make(3, 1<<40+5, []byte("data"))
	return [][]byte{
		nil, {}, b, b[:16], b[:17], b[:24], append(slices.Clone(b), 1, 2), change(b, 0, 1), change(b, 13, 1), change(b, 18, 1), change(b, 24, 1),
		Make(0, 1, nil), Make(9, 1, pattern(20)), Make(8, 0, nil), headOf(1, 1, api.MaxSeg), headOf(1, 1, api.MaxSeg+1), append(slices.Clone(b), b...),
	}
}

// anything answers a row of frames and of other bytes, some of them changed.
func anything(r *rand.Rand) []byte {
	var b []byte
	for range r.IntN(4) {
		switch r.IntN(6) {
		case 0:
			b = append(b, pattern(r.IntN(30))...)
		case 1:
			b = append(b, headOf(byte(r.IntN(12)), r.Uint64(), uint32(r.IntN(12)))...)
		case 2:
			b = append(b, headOf(byte(r.IntN(12)), r.Uint64(), r.Uint32()>>r.IntN(32))...)
		default:
			b = append(b, Make(r.IntN(11), r.Uint64()>>r.IntN(64), pattern(r.IntN(30)))...)
		}
	}
	if len(b) > 0 && r.IntN(3) == 0 {
		b[r.IntN(len(b))] ^= byte(1 << r.IntN(8))
	}
	if r.IntN(4) == 0 {
		b = b[:r.IntN(len(b)+1)]
	}
	return b
}

// between answers a frame with that many bytes of data, with others around it, where it begins, and the index behind it.
func between(size, around int) ([]byte, int, int) {
	b := Make(3, 1<<40+5, pattern(size))
	return slices.Concat(pattern(around), b, pattern(around)), around, around + len(b)
}

// change answers b with the byte at index i another one.
func change(b []byte, i int, by byte) []byte {
	out := slices.Clone(b)
	out[i] ^= by
	return out
}

// inverted answers b with the bits inverted that p has, from bit first on; bits outside of b are left out.
func inverted(b []byte, first int, p uint64) []byte {
	out := slices.Clone(b)
	for i := range 64 {
		if bit := first + i; p>>i&1 == 1 && bit >= 0 && bit < 8*len(b) {
			out[bit/8] ^= 1 << (bit % 8)
		}
	}
	return out
}

// spoil changes each byte of b, and of the memory behind it that belongs to it.
func spoil(b []byte) {
	b = b[:cap(b)]
	for i := range b {
		b[i] ^= 0x5a
	}
}

func sumOf(b []byte) uint32 { return crc32.Checksum(b, crc32.MakeTable(crc32.Castagnoli)) }

// headOf answers a head with the right checksum, whatever it says.
func headOf(kind byte, seq uint64, size uint32) []byte {
	out := binary.LittleEndian.AppendUint64([]byte{kind}, seq)
	out = binary.LittleEndian.AppendUint32(out, size)
	return binary.LittleEndian.AppendUint32(out, sumOf(out))
}

// made answers the frame as the chapter describes it.
func made(kind int, seq uint64, data []byte) []byte {
	out := append(headOf(byte((kind%256+256)%256), seq, uint32(len(data))), data...)
	return binary.LittleEndian.AppendUint32(out, sumOf(out))
}

// parsed answers what the chapter says of the frame at an index, one rule after the other.
func parsed(b []byte, at int) (Frame, api.Errno) {
	if at < 0 || at > len(b) {
		return Frame{}, api.ErrArg
	}
	b = b[at:]
	if len(b) < 17 {
		return Frame{}, api.ErrShort
	}
	if sumOf(b[:13]) != binary.LittleEndian.Uint32(b[13:]) {
		return Frame{}, api.ErrSum
	}
	size := int(binary.LittleEndian.Uint32(b[9:]))
	if b[0] == 0 || b[0] > 8 || size > 65536 {
		return Frame{}, api.ErrForm
	}
	if len(b) < 17+size+4 {
		return Frame{}, api.ErrShort
	}
	if sumOf(b[:17+size]) != binary.LittleEndian.Uint32(b[17+size:]) {
		return Frame{}, api.ErrSum
	}
	return Frame{Kind: int(b[0]), Seq: binary.LittleEndian.Uint64(b[1:]), Data: b[17 : 17+size], End: at + 17 + size + 4}, api.OK
}

func same(f, g Frame) bool {
	return f.Kind == g.Kind && f.Seq == g.Seq && bytes.Equal(f.Data, g.Data) && f.End == g.End
}

func checkMake(t *testing.T, kind int, seq uint64, data []byte) {
	t.Helper()
	if got, want := Make(kind, seq, data), made(kind, seq, data); !bytes.Equal(got, want) {
		t.Errorf("Make(%d, %d, %d bytes): % x, want % x", kind, seq, len(data), got, want)
	}
}

func checkFrame(t *testing.T, b []byte, at int, want Frame) {
	t.Helper()
	if got, err := Parse(b, at); err != api.OK || !same(got, want) {
		t.Errorf("Parse(% x, %d): %v, %v, want %v", b, at, got, err, want)
	}
}

func checkFails(t *testing.T, b []byte, at int, want api.Errno) {
	t.Helper()
	if got, err := Parse(b, at); err != want || !same(got, Frame{}) {
		t.Errorf("Parse(% x, %d): %v, %v, want %v", b, at, got, err, want)
	}
}

// checkParse holds Parse against the words of the chapter, and answers its error.
func checkParse(t *testing.T, b []byte, at int) api.Errno {
	t.Helper()
	want, wantErr := parsed(b, at)
	got, err := Parse(b, at)
	if err != wantErr || !same(got, want) {
		t.Errorf("Parse(% x, %d): %v, %v, want %v, %v", b, at, got, err, want, wantErr)
	}
	return err
}

func checkInverse(t *testing.T, kind int, seq uint64, data []byte) {
	t.Helper()
	checkFrame(t, Make(kind, seq, data), 0, Frame{Kind: kind, Seq: seq, Data: data, End: len(data) + 21})
}

// checkInverted inverts bits of b, in which a frame goes from index at to index end: where one of them is in the frame, this must be seen, and where none is, nothing must have changed.
func checkInverted(t *testing.T, b []byte, at, end, first int, p uint64) {
	t.Helper()
	c := inverted(b, first, p)
	got, err := Parse(c, at)
	if bytes.Equal(c[at:end], b[at:end]) {
		if want, _ := Parse(b, at); err != api.OK || !same(got, want) {
			t.Errorf("bits %x from %d on, outside of the frame: %v, %v", p, first, got, err)
		}
		return
	}
	if err != api.ErrSum || !same(got, Frame{}) {
		t.Errorf("bits %x from %d on: %v, %v, want %v", p, first, got, err, api.ErrSum)
	}
}
