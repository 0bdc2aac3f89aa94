package coder

import (
	"bytes"
	"math"
	"math/rand/v2"
	"slices"
	"strings"
	"testing"

	"stillage/api"
)

// Those of a writer and of a reader, as the chapter declares them.
type (
	writerMethods interface {
		Num(n int)
		Seq(n uint64)
		Text(s string)
		Digest(d api.Digest)
		Bytes() ([]byte, api.Errno)
	}
	readerMethods interface {
		Num(most int) int
		Seq() uint64
		Text() string
		Digest() api.Digest
		End() api.Errno
	}
)

var (
	_ func(magic string) *Writer           = NewWriter
	_ func(magic string, b []byte) *Reader = NewReader
	_ writerMethods                        = NewWriter("")
	_ readerMethods                        = NewReader("", nil)
)

// magics are the empty one, short ones, those of hints and checkpoints, long ones, and bytes that are no UTF-8.
func magics() []string {
	return []string{"", "x", "hi", "hint 1", "point 1", "\x00", "\x00\x00\x00\x00", "\xff", "\xff\xfe\x00\x80", "é", strings.Repeat("m", 255), strings.Repeat("n", 256), string(pattern(70000))}
}

// sums are bytes that were computed by another program, with blanks between the parts: the magic, the fields, and the checksum.
var sums = []struct {
	magic  string
	fields []field
	want   string
}{
	{"", nil, "\x00\x00\x00\x00"},
	{"x", nil, "x \x93\x5f\x3c\xa9"},
	{"x", []field{num(300)}, "x \xac\x02 \x90\x50\x5b\xb8"},
	{"hi\xff\x00", nil, "hi\xff\x00 \xb8\x90\x72\xda"},
	{"hi", []field{num(255), num(0)}, "hi \xff\x01 \x00 \xb0\x93\xc9\x79"},
	{"", []field{text("")}, "\x00 \x51\x53\x7d\x52"},
	{"\xff\xff\xff\xff", nil, "\xff\xff\xff\xff \xff\xff\xff\xff"},
	{"m", []field{num(math.MaxInt), seq(1 << 63), text(""), text("\xff\xfe"), num(0), num(127), seq(128)}, "m \xff\xff\xff\xff\xff\xff\xff\xff\x7f \x80\x80\x80\x80\x80\x80\x80\x80\x80\x01 \x00 \x02\xff\xfe \x00 \x7f \x80\x01 \xf0\xb1\xab\x06"},
	{"hi", []field{num(300), text("abc"), dig(api.Digest{5}), seq(math.MaxUint64)}, "hi \xac\x02 \x03abc \x05" + strings.Repeat("\x00", 31) + " \xff\xff\xff\xff\xff\xff\xff\xff\xff\x01 \xa8\x8a\x9f\xea"},
}

// P23.1, P23.2: bytes that were computed elsewhere are written and read.
func TestBytesFromElsewhere(t *testing.T) {
	for _, c := range sums {
		want := []byte(strings.ReplaceAll(c.want, " ", ""))
		if b, err := written(c.magic, c.fields...).Bytes(); err != api.OK || !bytes.Equal(b, want) {
			t.Errorf("%q and %v: % x, %v, want % x", c.magic, c.fields, b, err, want)
		}
		p := newPair(t, c.magic, want)
		for _, f := range c.fields {
			if got := p.read(ask{f.kind, math.MaxInt}); got != f {
				t.Errorf("%v, want %v", got, f)
			}
		}
		if err := p.end(); err != api.OK {
			t.Errorf("End of % x: %v", want, err)
		}
	}
}

// P23.1, P23.2: what the chapter's examples say.
func TestExamples(t *testing.T) {
	w := NewWriter("hi")
	w.Num(300)
	w.Text("abc")
	w.Digest(api.Digest{1, 2, 3})
	w.Seq(1<<64 - 1)
	b, err := w.Bytes()
	if err != api.OK || len(b) != 2+2+4+32+10+4 {
		t.Fatalf("%d bytes, %v", len(b), err)
	}
	r := NewReader("hi", b)
	if n, s, d, q := r.Num(300), r.Text(), r.Digest(), r.Seq(); n != 300 || s != "abc" || d != (api.Digest{1, 2, 3}) || q != 1<<64-1 {
		t.Errorf("%d, %q, %x, %d", n, s, d, q)
	}
	if err := r.End(); err != api.OK {
		t.Errorf("End: %v", err)
	}
	r = NewReader("hi", b)
	if n := r.Num(299); n != 0 {
		t.Errorf("Num(299): %d", n)
	}
	checkFailed(t, r, api.ErrRange)
	if err := NewReader("hi", b).End(); err != api.ErrForm {
		t.Errorf("End at once: %v", err)
	}
	checkFailed(t, NewReader("ho", b), api.ErrForm)
	checkFailed(t, NewReader("hi", b[:5]), api.ErrShort)
	for bit := range 8 * len(b) {
		checkFailed(t, NewReader("hi", inverted(b, bit, 1)), api.ErrSum)
	}
	w.Num(-1)
	if b, err := w.Bytes(); err != api.ErrArg || len(b) != 0 {
		t.Errorf("behind Num(-1): % x, %v", b, err)
	}
}

// P23.1, P23.2: any magic, with nothing behind it and with fields.
func TestMagics(t *testing.T) {
	for _, magic := range magics() {
		checkBytes(t, NewWriter(magic), magic)
		checkInverse(t, magic)
		checkInverse(t, magic, num(300))
		checkInverse(t, magic, text(magic[:min(len(magic), 255)]), seq(7), dig(api.Digest{9}))
	}
}

// P23.2: bytes of one magic, read with another one: of the same length, shorter, longer, and one that begins with it.
func TestOtherMagics(t *testing.T) {
	for _, magic := range magics() {
		for _, other := range magics() {
			for _, fields := range [][]field{nil, {num(300)}, {text(other[:min(len(other), 255)])}, {filled(7), num(1)}} {
				p := newPair(t, other, sound(t, magic, fields...))
				p.end()
				for _, x := range asks() {
					p.read(x)
				}
				p.end()
			}
		}
	}
	b := sound(t, "hint 1", num(5))
	for _, other := range []string{"hint 2", "Hint 1", "int 1h", "hint 1\x06", "xint 1", "hint\x001"} {
		newPair(t, other, b).failed(api.ErrForm)
	}
	for end := range len("hint 1") {
		r := NewReader("hint 1"[:end], b)
		if n := r.Num(math.MaxInt); n != int("hint 1"[end]) {
			t.Errorf("behind %q: %d", "hint 1"[:end], n)
		}
	}
	r := NewReader("hint 1\x05", b)
	if err := r.End(); err != api.OK {
		t.Errorf("a magic that is all of the fields: %v", err)
	}
}

// ints are numbers at which an encoding takes one byte more, and others of all sorts.
func ints() []int {
	out := []int{0, 1, 2, 100, 127, 128, 129, 255, 256, 300, 16383, 16384, 16385, api.MaxFile, api.MaxNumber, math.MaxInt32, math.MaxInt - 1, math.MaxInt}
	for bit := range 63 {
		out = append(out, 1<<bit, 1<<bit-1, 1<<bit+1)
	}
	return out
}

// P23.1, P23.4: numbers, alone and between others, as Num and as Seq.
func TestNumbers(t *testing.T) {
	for _, n := range ints() {
		checkInverse(t, "x", num(n))
		checkInverse(t, "", seq(uint64(n)))
		checkInverse(t, "hi", text("ahead"), num(n), seq(uint64(n)), num(n), filled(3))
	}
	for _, n := range []uint64{1 << 63, 1<<63 - 1, 1<<63 + 1, 1<<64 - 1<<32, math.MaxUint64 - 1, math.MaxUint64, 0x0102030405060708, 0xf0e0d0c0b0a09080} {
		checkInverse(t, "", seq(n))
		checkInverse(t, "hi", num(5), seq(n), seq(n), text("behind"))
	}
	for n := range 40000 {
		checkInverse(t, "x", num(n), seq(uint64(n)))
	}
}

// P23.1, P23.4: texts of every length that may be, and of any bytes.
func TestTexts(t *testing.T) {
	for size := range 256 {
		checkInverse(t, "x", long("a", size))
		checkInverse(t, "", text(string(pattern(size))), num(1))
		checkInverse(t, "hi", long("\x00", size), long("\xff", size), long("é", size/2), seq(9))
	}
	for c := range 256 {
		checkInverse(t, "x", text(string([]byte{byte(c)})), text(string([]byte{0xc3, byte(c), 0x80})))
	}
}

// P23.1, P23.4: digests of any bytes.
func TestDigests(t *testing.T) {
	for c := range 256 {
		checkInverse(t, "x", filled(byte(c)))
	}
	for i := range 32 {
		d := api.Digest{}
		d[i] = 1
		checkInverse(t, "", dig(d), dig(api.Digest(pattern(32))), num(i))
	}
}

// some are fields of each kind, short ones and long ones.
func some() []field {
	return []field{num(0), num(300), seq(1<<64 - 1), seq(5), text(""), text("abc"), filled(0), dig(api.Digest(pattern(32)))}
}

// P23.1, P23.4: all rows of up to four fields.
func TestRowsOfFields(t *testing.T) {
	for _, row := range rowsOf(4, some()) {
		checkInverse(t, "hi", row...)
	}
}

// P23.4: long rows of fields of each kind, drawn.
func TestLongRows(t *testing.T) {
	r := rand.New(rand.NewPCG(23, 4))
	for range 3000 {
		checkInverse(t, "point 1", drawn(r, r.IntN(40))...)
	}
}

// P23.4: so many fields that each of them must take little time.
func TestManyFields(t *testing.T) {
	r := rand.New(rand.NewPCG(23, 5))
	checkInverse(t, "hint 1", drawn(r, 400000)...)
}

// drawn answers that many fields, drawn.
func drawn(r *rand.Rand, size int) []field {
	var out []field
	for range size {
		switch r.IntN(4) {
		case 0:
			out = append(out, num(r.Int()>>r.IntN(63)))
		case 1:
			out = append(out, seq(r.Uint64()>>r.IntN(64)))
		case 2:
			at, size := r.IntN(200), r.IntN(256)>>r.IntN(9)
			out = append(out, text(string(pattern(500)[at:at+size])))
		case 3:
			var d api.Digest
			d[r.IntN(32)] = byte(r.Uint32())
			out = append(out, dig(d))
		}
	}
	return out
}

// wrongs are fields that can't be written.
func wrongs() []field {
	return []field{num(-1), num(-2), num(-128), num(math.MinInt32), num(math.MinInt), num(math.MinInt + 1), long("a", 256), long("\x00", 257), long("é", 128), long("b", 511), long("c", 512), long("d", 70000)}
}

// P23.1: a wrong number or text, with right fields ahead of it and behind it; nothing makes up for it.
func TestWrongFields(t *testing.T) {
	for _, wrong := range wrongs() {
		for _, ahead := range rowsOf(2, some()) {
			w := written("hi", ahead...)
			checkBytes(t, w, "hi", ahead...)
			put(w, wrong)
			checkBytes(t, w, "hi", append(ahead, wrong)...)
			for i, f := range some() {
				put(w, f)
				if b, err := w.Bytes(); err != api.ErrArg || len(b) != 0 {
					t.Fatalf("%d right fields behind %v: % x, %v", i+1, wrong, b, err)
				}
			}
			put(w, wrong)
			checkBytes(t, w, "hi", append(ahead, wrong)...)
		}
		for _, other := range wrongs() {
			checkBytes(t, written("", wrong, other), "", wrong, other)
			checkBytes(t, written("x", num(1), wrong, num(2), other, num(3)), "x", wrong)
		}
	}
}

// P23.1: right numbers and texts next to the wrong ones.
func TestEdgesOfRightFields(t *testing.T) {
	for _, f := range []field{num(0), num(math.MaxInt), long("a", 255), long("é", 127), seq(math.MaxUint64), seq(1 << 63)} {
		if b, err := written("x", f).Bytes(); err != api.OK || len(b) == 0 {
			t.Errorf("%v: % x, %v", f, b, err)
		}
	}
}

// P23.1: Bytes is of all that was written so far, as often as it is asked, and its checksum is no part of what was written.
func TestBytesAgain(t *testing.T) {
	for _, magic := range []string{"", "hi"} {
		for _, row := range rowsOf(3, some()) {
			w := NewWriter(magic)
			checkBytes(t, w, magic)
			for i, f := range row {
				put(w, f)
				checkBytes(t, w, magic, row[:i+1]...)
			}
		}
	}
}

// P23.1, R3: what Bytes answered stays as it is when more is written, when other answers are changed, and when Bytes is asked again.
func TestBytesStay(t *testing.T) {
	for _, first := range rowsOf(2, some()) {
		w := written("hi", first...)
		kept, _ := w.Bytes()
		was := bytes.Clone(kept)
		more, _ := w.Bytes()
		spoil(more)
		for i, f := range some() {
			put(w, f)
			more := checkBytes(t, w, "hi", slices.Concat(first, some()[:i+1])...)
			spoil(more)
		}
		w.Num(-1)
		w.Bytes()
		if !bytes.Equal(kept, was) {
			t.Fatalf("% x became % x", was, kept)
		}
	}
}

// R3: what is done to an answer, and to the memory behind it, changes no later one.
func TestAnswersOfBytesAreNew(t *testing.T) {
	for size := range 80 {
		w := NewWriter(strings.Repeat("m", size))
		b, _ := w.Bytes()
		spoil(b)
		checkBytes(t, w, strings.Repeat("m", size))
		w.Seq(5)
		b = checkBytes(t, w, strings.Repeat("m", size), seq(5))
		spoil(b)
		w.Text("abc")
		checkBytes(t, w, strings.Repeat("m", size), seq(5), text("abc"))
	}
}

// P23.2: bytes that are fewer than the magic and four more, whatever they are; with just as many, the rest counts.
func TestNewReaderOfFewBytes(t *testing.T) {
	for _, magic := range magics() {
		whole := sound(t, magic, num(300), text("abc"))
		for _, size := range []int{0, 1, 2, 3, 4, 5, len(magic) - 2, len(magic) - 1, len(magic), len(magic) + 1, len(magic) + 2, len(magic) + 3} {
			if size < 0 || size >= len(magic)+4 {
				continue
			}
			newPair(t, magic, whole[:size]).failed(api.ErrShort)
			newPair(t, magic, slices.Clip(whole[:size])).failed(api.ErrShort)
			newPair(t, magic, make([]byte, size)).failed(api.ErrShort)
			newPair(t, magic, pattern(size)).failed(api.ErrShort)
			if size >= 4 {
				newPair(t, magic, sealed(whole[:size-4]...)).failed(api.ErrShort)
				newPair(t, magic, sealed(make([]byte, size-4)...)).failed(api.ErrShort)
			}
		}
		newPair(t, magic, nil).failed(api.ErrShort)
		newPair(t, magic, []byte{}).failed(api.ErrShort)
		newPair(t, magic, whole[:len(magic)+4]).failed(api.ErrSum)
		if err := newPair(t, magic, sound(t, magic)).end(); err != api.OK {
			t.Errorf("nothing but %q: %v", magic, err)
		}
		if len(magic) > 0 {
			newPair(t, magic, sealed(make([]byte, len(magic))...)).end()
			newPair(t, magic, sealed(pattern(len(magic) + 1)[1:]...)).failed(api.ErrForm)
		}
	}
}

// P23.2: of two errors of NewReader the first one of the chapter counts.
func TestOrderOfErrors(t *testing.T) {
	for _, magic := range []string{"x", "hi", "hint 1", strings.Repeat("m", 255)} {
		other := "X" + magic[1:]
		for _, fields := range [][]field{nil, {num(300)}, {text("abc"), filled(1)}} {
			b := sound(t, magic, fields...)
			for bit := 8 * len(magic); bit < 8*len(b); bit++ {
				newPair(t, other, inverted(b, bit, 1)).failed(api.ErrSum)
				newPair(t, magic, inverted(b, bit, 1)).failed(api.ErrSum)
			}
			newPair(t, other, b).failed(api.ErrForm)
			newPair(t, other, sealed(append([]byte{'y'}, b...)...)).failed(api.ErrForm)
			newPair(t, other, b[:len(magic)+3]).failed(api.ErrShort)
			newPair(t, magic, inverted(b, 0, 1)[:len(magic)+3]).failed(api.ErrShort)
			newPair(t, magic, inverted(b, 0, 1)).failed(api.ErrSum)
		}
	}
}

// P23.2: the last four bytes are the checksum of all bytes before them in the order of a fixed number; no other checksum is right.
func TestOtherSums(t *testing.T) {
	b := sound(t, "hint 1", num(300), text("abc"))
	body := b[:len(b)-4]
	for from := range body {
		for to := from; to <= len(body); to++ {
			for _, sum := range []uint32{sumOf(body[from:to]), ^sumOf(body[from:to]), 0, math.MaxUint32} {
				least := append(bytes.Clone(body), byte(sum), byte(sum>>8), byte(sum>>16), byte(sum>>24))
				most := append(bytes.Clone(body), byte(sum>>24), byte(sum>>16), byte(sum>>8), byte(sum))
				newPair(t, "hint 1", least).end()
				newPair(t, "hint 1", most).failed(api.ErrSum)
				if from > 0 || to < len(body) {
					newPair(t, "hint 1", least).failed(api.ErrSum)
				}
			}
		}
	}
	newPair(t, "hint 1", append(bytes.Clone(b), 0)).failed(api.ErrSum)
	newPair(t, "hint 1", append([]byte{0}, b...)).failed(api.ErrSum)
	newPair(t, "hint 1", b[1:]).failed(api.ErrSum)
	newPair(t, "hint 1", b[:len(b)-1]).failed(api.ErrSum)
}

// P23.2: numbers that are less than, equal to and greater than the most that they may be.
func TestNumWithMost(t *testing.T) {
	mosts := append(ints(), -1, -2, -300, math.MinInt32, math.MinInt, math.MinInt+1)
	for _, n := range append(ints(), 3, 299, 301) {
		b := sound(t, "x", num(n), num(n), text("abc"))
		for _, most := range mosts {
			p := newPair(t, "x", b)
			got := p.read(ask{isNum, most})
			if most < n {
				p.failed(api.ErrRange)
				continue
			}
			if got.n != n {
				t.Fatalf("Num(%d): %d, want %d", most, got.n, n)
			}
			if got := p.read(ask{isNum, math.MaxInt}); got.n != n {
				t.Fatalf("the second number: %d, want %d", got.n, n)
			}
			if got := p.read(ask{kind: isText}); got.text != "abc" || p.end() != api.OK {
				t.Fatalf("the text: %q", got.text)
			}
		}
	}
}

// P23.2: numbers above the greatest int are greater than any most; Seq reads them.
func TestNumOfGreatNumbers(t *testing.T) {
	for _, n := range []uint64{1 << 63, 1<<63 + 1, 1<<63 + 300, 1<<64 - 300, math.MaxUint64 - 1, math.MaxUint64} {
		b := sound(t, "x", seq(n), num(1))
		for _, most := range append(ints(), -1, -2, -299, -300, -301, math.MinInt, math.MinInt+1, math.MinInt+300) {
			p := newPair(t, "x", b)
			p.read(ask{isNum, most})
			p.failed(api.ErrRange)
		}
		p := newPair(t, "x", b)
		if got := p.read(ask{kind: isSeq}); got.seq != n {
			t.Errorf("Seq: %d, want %d", got.seq, n)
		}
		if got := p.read(ask{isNum, 1}); got.n != 1 || p.end() != api.OK {
			t.Errorf("the number behind %d: %d", n, got.n)
		}
	}
}

// varints are bytes that are none, and what is wrong with them where the fields end behind them.
func varints() []struct {
	b   []byte
	err api.Errno
} {
	full := func(size int, more ...byte) []byte { return append(bytes.Repeat([]byte{255}, size), more...) }
	return []struct {
		b   []byte
		err api.Errno
	}{
		{nil, api.ErrShort}, {full(1), api.ErrShort}, {full(2), api.ErrShort}, {full(8), api.ErrShort}, {full(9), api.ErrShort}, {[]byte{128}, api.ErrShort}, {[]byte{128, 128, 128}, api.ErrShort},
		{[]byte{128, 0}, api.ErrForm}, {[]byte{255, 0}, api.ErrForm}, {[]byte{172, 130, 0}, api.ErrForm}, {[]byte{128, 0, 1}, api.ErrForm}, {full(8, 0), api.ErrForm}, {full(9, 0), api.ErrForm},
		{full(9, 2), api.ErrRange}, {full(9, 127), api.ErrRange}, {full(9, 128), api.ErrRange}, {full(10), api.ErrRange}, {full(10, 0), api.ErrRange}, {full(10, 1), api.ErrRange}, {full(20), api.ErrRange},
	}
}

// P23.2: Num and Seq of bytes that are no varint, alone and with fields ahead; the error of the varint comes ahead of that of the number.
func TestWrongVarints(t *testing.T) {
	for _, c := range varints() {
		for _, ahead := range [][]field{nil, {num(1)}, {text("abc"), filled(9)}} {
			b := sound(t, "x", ahead...)
			b = sealed(append(b[:len(b)-4], c.b...)...)
			for _, x := range []ask{{kind: isSeq}, {isNum, math.MaxInt}, {isNum, 0}, {isNum, 127}, {isNum, -1}, {isNum, math.MinInt}} {
				p := newPair(t, "x", b)
				for _, f := range ahead {
					p.read(ask{f.kind, f.n})
				}
				p.read(x)
				p.failed(c.err)
			}
		}
	}
}

// P23.2: a varint that the first bytes of the checksum would make whole is cut off by the end of the fields, whatever these bytes are.
func TestVarintsEndWithTheFields(t *testing.T) {
	small := 0
	for filler := range 2000 {
		for size := 1; size < 10; size++ {
			b := sealed(append([]byte{'x', byte(filler), byte(filler >> 8)}, bytes.Repeat([]byte{130}, size)...)...)
			if c := b[len(b)-4]; c < 128 && c > 1 {
				small++
			}
			for _, x := range []ask{{kind: isSeq}, {isNum, math.MaxInt}, {isNum, -1}} {
				p := newPair(t, string(b[:3]), b)
				p.read(x)
				p.failed(api.ErrShort)
			}
		}
	}
	if small < 1000 {
		t.Errorf("%d checksums only begin with a byte that ends a varint", small)
	}
	// The checksum of four bytes that are all ones is four such bytes.
	newPair(t, "\xff\xff\xff", sealed(255, 255, 255, 255)).read(ask{kind: isSeq})
}

// P23.2: texts that end with the fields, that end some bytes behind them, and of which nothing is there.
func TestTextsAtTheEnd(t *testing.T) {
	for size := range 256 {
		for _, missing := range []int{-1, 0, 1, 2, 3, 4, 5, 6, size} {
			if missing > size {
				continue
			}
			b := sealed(append([]byte{'x', byte(size)}, pattern(size-missing)...)...)
			p := newPair(t, "x", b)
			got := p.read(ask{kind: isText})
			switch {
			case missing > 0:
				p.failed(api.ErrShort)
			case got.text != string(pattern(size)):
				t.Errorf("%d bytes: %q", size, got.text)
			case missing < 0 && p.end() != api.ErrForm || missing == 0 && p.end() != api.OK:
				t.Errorf("End behind %d bytes: %v", size, p.end())
			}
		}
	}
	p := newPair(t, "x", sealed('x'))
	p.read(ask{kind: isText})
	p.failed(api.ErrShort)
}

// P23.2: digests that end with the fields, and that end some bytes behind them.
func TestDigestsAtTheEnd(t *testing.T) {
	for size := range 70 {
		for _, ahead := range []string{"", "abc"} {
			p := newPair(t, "x", sealed(slices.Concat([]byte("x"), []byte{byte(len(ahead))}, []byte(ahead), pattern(size))...))
			p.read(ask{kind: isText})
			got := p.read(ask{kind: isDigest})
			switch {
			case size < 32:
				p.failed(api.ErrShort)
			case !bytes.Equal(got.digest[:], pattern(size)[:32]):
				t.Errorf("%d bytes: %x", size, got.digest)
			case size == 32 && p.end() != api.OK || size > 32 && p.end() != api.ErrForm:
				t.Errorf("End behind a digest of %d bytes: %v", size, p.end())
			}
		}
	}
}

// P23.2: End at once, amid the fields, behind all of them, and behind one read too many of each kind. That fields are left is no failure: they can be read afterwards.
func TestEnd(t *testing.T) {
	for _, row := range rowsOf(3, some()) {
		b := sound(t, "hi", row...)
		for _, x := range asks() {
			p := newPair(t, "hi", b)
			for i, f := range row {
				for range 2 {
					if err := p.end(); err != api.ErrForm {
						t.Fatalf("End ahead of field %d of %v: %v", i, row, err)
					}
				}
				if got := p.read(ask{f.kind, f.n}); got != f {
					t.Fatalf("field %d of %v: %v", i, row, got)
				}
			}
			for range 2 {
				if err := p.end(); err != api.OK {
					t.Fatalf("End behind %v: %v", row, err)
				}
			}
			p.read(x)
			p.failed(api.ErrShort)
		}
	}
}

// P23.2: the first error is kept, though a later read would have another one; nothing is read behind it, though fields are left that could be.
func TestFirstErrorIsKept(t *testing.T) {
	short, form, wide := []byte{255}, []byte{128, 0}, append(bytes.Repeat([]byte{255}, 9), 2)
	for _, c := range []struct {
		fields []byte
		first  ask
		want   api.Errno
	}{
		{slices.Concat(form, wide), ask{kind: isSeq}, api.ErrForm},
		{slices.Concat(wide, form), ask{kind: isSeq}, api.ErrRange},
		{slices.Concat([]byte{5}, form), ask{isNum, 4}, api.ErrRange},
		{slices.Concat([]byte{5, 5, 5, 5, 5, 5}, form), ask{isNum, -1}, api.ErrRange},
		{slices.Concat([]byte{200, 1, 1}, wide), ask{kind: isText}, api.ErrShort},
		{slices.Concat([]byte{5, 'a', 'b', 'c'}), ask{kind: isText}, api.ErrShort},
		{slices.Concat([]byte{0, 0, 0, 0}, make([]byte, 27)), ask{kind: isDigest}, api.ErrShort},
		{short, ask{kind: isSeq}, api.ErrShort},
	} {
		b := sealed(append([]byte("x"), c.fields...)...)
		for _, often := range []bool{false, true} {
			for _, then := range rowsOf(3, asks()) {
				p := newPair(t, "x", b)
				p.often = often
				p.read(c.first)
				for _, x := range then {
					if got := p.read(x); got != (field{kind: x.kind}) {
						t.Fatalf("read %v behind %v: %v", x, c.want, got)
					}
				}
				if err := p.end(); err != c.want {
					t.Fatalf("End of % x: %v, want %v", b, err, c.want)
				}
			}
		}
	}
}

// P23.2: behind each error of each kind all reads return zero values, and End keeps it.
func TestReadsBehindErrors(t *testing.T) {
	for _, ahead := range rowsOf(2, some()) {
		fields := append(slices.Clone(ahead), some()...)
		b := sound(t, "hi", fields...)
		p := newPair(t, "hi", b)
		for _, f := range ahead {
			p.read(ask{f.kind, f.n})
		}
		p.read(ask{isNum, -1})
		p.failed(api.ErrRange)
		newPair(t, "ho", b).failed(api.ErrForm)
		newPair(t, "hi", b[:5]).failed(api.ErrShort)
		newPair(t, "hi", inverted(b, 8*len(b)-1, 1)).failed(api.ErrSum)
	}
}

// P23.2: fields that are read as others than they were written, in all rows of up to three reads of up to three fields.
func TestFieldsReadAsOthers(t *testing.T) {
	for _, row := range rowsOf(3, some()) {
		b := sound(t, "hi", row...)
		for _, reads := range rowsOf(3, asks()) {
			p := newPair(t, "hi", b)
			for _, x := range reads {
				p.read(x)
			}
			p.end()
		}
	}
}

// P23.2: bytes of all sorts with a right checksum, held against the words of the chapter; each error comes up for each kind that can have it.
func TestAnyFields(t *testing.T) {
	r := rand.New(rand.NewPCG(23, 2))
	type outcome struct {
		kind int
		err  api.Errno
	}
	counts := map[outcome]int{}
	for range 60000 {
		p := newPair(t, "x", sealed(append([]byte("x"), anything(r)...)...))
		p.often = r.IntN(2) == 0
		for range 9 {
			x := asks()[r.IntN(len(asks()))]
			was := p.m.err
			p.read(x)
			if was == api.OK {
				counts[outcome{x.kind, p.m.err}]++
			}
		}
		p.end()
	}
	for _, want := range []outcome{
		{isNum, api.OK}, {isNum, api.ErrShort}, {isNum, api.ErrForm}, {isNum, api.ErrRange}, {isSeq, api.OK}, {isSeq, api.ErrShort}, {isSeq, api.ErrForm}, {isSeq, api.ErrRange},
		{isText, api.OK}, {isText, api.ErrShort}, {isDigest, api.OK}, {isDigest, api.ErrShort},
	} {
		if counts[want] < 100 {
			t.Errorf("%v came up %d times only", want, counts[want])
		}
	}
}

// anything answers a row of fields and of other bytes, drawn.
func anything(r *rand.Rand) []byte {
	var out []byte
	for range r.IntN(6) {
		switch r.IntN(5) {
		case 0:
			out = append(out, pattern(r.IntN(40))...)
		case 1:
			out = append(out, bytes.Repeat([]byte{255}, r.IntN(12))...)
			out = append(out, byte(r.IntN(4)))
		case 2:
			out = append(out, byte(r.Uint32())|128, byte(r.IntN(3)))
		default:
			b, _ := drawn(r, 1)[0].encoding()
			out = append(out, b...)
		}
	}
	return out[:len(out)-r.IntN(len(out)+1)>>r.IntN(6)]
}

// P23.2: any bytes, as they are; no reader is sound but of those with a right checksum and magic.
func TestAnyBytes(t *testing.T) {
	r := rand.New(rand.NewPCG(23, 3))
	for range 30000 {
		b := anything(r)
		if r.IntN(3) == 0 {
			b = sealed(b...)
		}
		magic := ""
		if len(b) > 0 && r.IntN(2) == 0 {
			magic = string(b[:r.IntN(len(b))])
		}
		p := newPair(t, magic, b)
		p.end()
		for range 5 {
			p.read(asks()[r.IntN(len(asks()))])
		}
		p.end()
	}
}

// P23.3: methods of a nil writer and of a nil reader.
func TestNil(t *testing.T) {
	var w *Writer
	for _, f := range append(some(), wrongs()...) {
		put(w, f)
		if b, err := w.Bytes(); err != api.ErrNil || b != nil {
			t.Errorf("Bytes of nil: % x, %v", b, err)
		}
	}
	var r *Reader
	checkFailed(t, r, api.ErrNil)
	for _, most := range ints() {
		if n := r.Num(most); n != 0 {
			t.Errorf("Num of nil: %d", n)
		}
	}
	checkFailed(t, r, api.ErrNil)
}

// sample answers bytes with fields of each kind, long enough that 32 bits do not reach from one end to the other.
func sample(t *testing.T, magic string) []byte {
	t.Helper()
	return sound(t, magic, num(300), text("abc"), dig(api.Digest(pattern(32))), seq(1<<64-1), num(0))
}

// checkInverted inverts bits of b: the reader must fail by the checksum, if any bit of b is among them.
func checkInverted(t *testing.T, magic string, b []byte, first int, p uint64) {
	t.Helper()
	c := inverted(b, first, p)
	want := api.ErrSum
	if bytes.Equal(c, b) {
		want = api.OK
	}
	r := NewReader(magic, c)
	if want == api.ErrSum && r.End() != want {
		t.Fatalf("bits %x of % x from %d on: %v", p, b, first, r.End())
	}
	if want == api.OK && (len(b) == len(magic)+4 && r.End() != api.OK || len(b) > len(magic)+4 && r.End() != api.ErrForm) {
		t.Fatalf("bits %x from %d on, outside of % x: %v", p, first, b, r.End())
	}
}

// P23.4: any single inverted bit, those of the magic and of the checksum among them, and runs and patterns of up to 32 bits, at each place.
func TestInvertedBits(t *testing.T) {
	r := rand.New(rand.NewPCG(23, 6))
	patterns := []uint64{1, 0x82f63b78, 0x05ec76f1, 0x1db71064, 0xff0000ff, 0x80808080, 0x01010101}
	for width := 2; width <= 32; width++ {
		run := uint64(1)<<width - 1
		patterns = append(patterns, run, 1|1<<(width-1), run&0x55555555, run&0xaaaaaaaa, run&0x0f0f0f0f, run&0xff00ff00)
	}
	for range 200 {
		patterns = append(patterns, uint64(r.Uint32()))
	}
	for _, magic := range []string{"", "x", "hint 1"} {
		for _, b := range [][]byte{sound(t, magic), sound(t, magic, num(300)), sample(t, magic)} {
			for first := -31; first < 8*len(b); first++ {
				for _, p := range patterns {
					checkInverted(t, magic, b, first, p)
				}
			}
		}
	}
}

// P23.4: all patterns of 12 bits at every place.
func TestInvertedBitsInEachWay(t *testing.T) {
	for _, b := range [][]byte{sound(t, "hi"), sample(t, "hi")} {
		for first := -11; first < 8*len(b); first++ {
			for p := range uint64(1 << 12) {
				checkInverted(t, "hi", b, first, p)
			}
		}
	}
}

// P23.4: inverted bits at both ends and amid many fields.
func TestInvertedBitsOfManyFields(t *testing.T) {
	b := sound(t, "hint 1", drawn(rand.New(rand.NewPCG(23, 7)), 5000)...)
	for _, first := range []int{0, 7, 16, 40, 47, 48, 8 * 1000, 8*2000 + 3, 8*(len(b)-4) - 31, 8*(len(b)-4) - 16, 8*(len(b)-4) - 1, 8 * (len(b) - 4), 8*len(b) - 1} {
		for _, p := range []uint64{1, 1<<32 - 1, 1<<31 + 1, 0x82f63b78, 0xaaaaaaaa} {
			checkInverted(t, "hint 1", b, first, p)
		}
	}
}

// P23.4: a reader that fails by inverted bits reads nothing.
func TestReadsOfInvertedBits(t *testing.T) {
	b := sample(t, "hi")
	for bit := range 8 * len(b) {
		newPair(t, "hi", inverted(b, bit, 1)).failed(api.ErrSum)
		newPair(t, "hi", inverted(b, bit, 1<<32-1)).failed(api.ErrSum)
	}
}

// R3: bytes that came in are as they were behind each call, with the memory behind them.
func TestArgumentsStay(t *testing.T) {
	for _, row := range rowsOf(2, some()) {
		whole := sound(t, "hi", row...)
		for _, b := range [][]byte{whole, whole[:3], inverted(whole, 3, 1), inverted(whole, 8*len(whole)-1, 1)} {
			room := append(bytes.Clone(b), pattern(60)...)
			was := bytes.Clone(room)
			r := NewReader("hi", room[:len(b)])
			for _, f := range row {
				take(r, ask{f.kind, f.n})
			}
			r.End()
			checkFailsOrEnds(t, r)
			if !bytes.Equal(room, was) {
				t.Fatalf("% x became % x", was, room)
			}
		}
	}
}

// checkFailsOrEnds reads one field too many of each kind.
func checkFailsOrEnds(t *testing.T, r *Reader) {
	t.Helper()
	for _, x := range asks() {
		if got := take(r, x); got != (field{kind: x.kind}) {
			t.Fatalf("read %v behind the end: %v", x, got)
		}
	}
	if r.End() == api.OK {
		t.Fatalf("End behind a read too many: OK")
	}
}

// R3: a reader keeps no memory that came in: what is done to the bytes behind NewReader changes no read, at whatever field it is done.
func TestReaderKeepsNothing(t *testing.T) {
	for _, row := range rowsOf(3, some()) {
		for at := range len(row) + 1 {
			b := sound(t, "hi", row...)
			r := NewReader("hi", b)
			var got []field
			for i, f := range row {
				if i == at {
					spoil(b)
				}
				got = append(got, take(r, ask{f.kind, f.n}))
			}
			if at == len(row) {
				spoil(b)
			}
			if err := r.End(); err != api.OK || !slices.Equal(got, row) {
				t.Fatalf("%v, %v, want %v", got, err, row)
			}
		}
	}
}

// R3, R4: writers and readers that are used by turns do not meddle with each other, though they come from one magic or from the same bytes.
func TestObjectsAreApart(t *testing.T) {
	all := some()
	for _, a := range rowsOf(2, all) {
		for _, b := range [][]field{nil, {num(9)}, {text("other"), seq(8)}, {filled(6), num(-1)}} {
			one, two := NewWriter("hint 1"), NewWriter("hint 1")
			for i := range max(len(a), len(b)) {
				if i < len(a) {
					put(one, a[i])
				}
				if i < len(b) {
					put(two, b[i])
				}
			}
			checkBytes(t, two, "hint 1", b...)
			whole := checkBytes(t, one, "hint 1", a...)
			first, second := newPair(t, "hint 1", whole), newPair(t, "hint 1", whole)
			second.read(ask{isNum, -1})
			for _, f := range a {
				if got := first.read(ask{f.kind, f.n}); got != f {
					t.Fatalf("%v, want %v", got, f)
				}
				second.read(ask{f.kind, f.n})
			}
			first.end()
			second.end()
		}
	}
}
