package coder

import (
	"bytes"
	"encoding/binary"
	"hash/crc32"
	"math"
	"slices"
	"strings"
	"testing"

	"stillage/api"
)

// What the chapter and those of varints, fixed strings and checksums say, written down a second time. No function of this package or of those that it calls is used for it.

// The kinds of fields.
const (
	isNum = iota
	isSeq
	isText
	isDigest
)

// field is what is written or was read. Only what its kind has is set.
type field struct {
	kind   int
	n      int
	seq    uint64
	text   string
	digest api.Digest
}

// ask is of which kind a field is read; most counts for a number.
type ask struct{ kind, most int }

func num(n int) field            { return field{kind: isNum, n: n} }
func seq(n uint64) field         { return field{kind: isSeq, seq: n} }
func text(s string) field        { return field{kind: isText, text: s} }
func dig(d api.Digest) field     { return field{kind: isDigest, digest: d} }
func long(c string, n int) field { return text(strings.Repeat(c, n)) }
func filled(c byte) field        { return dig(api.Digest(bytes.Repeat([]byte{c}, 32))) }

// encoding answers the bytes of a field, and whether there are any.
func (f field) encoding() ([]byte, bool) {
	switch f.kind {
	case isNum:
		return binary.AppendUvarint(nil, uint64(f.n)), f.n >= 0
	case isSeq:
		return binary.AppendUvarint(nil, f.seq), true
	case isText:
		return append([]byte{byte(len(f.text))}, f.text...), len(f.text) <= 255
	}
	return f.digest[:], true
}

func sumOf(b []byte) uint32 { return crc32.Checksum(b, crc32.MakeTable(crc32.Castagnoli)) }

// sealed answers the bytes b and their checksum, in new memory.
func sealed(b ...byte) []byte {
	return binary.LittleEndian.AppendUint32(bytes.Clone(b), sumOf(b))
}

// made answers the bytes of a magic and fields, and what Bytes tells of them.
func made(magic string, fields ...field) ([]byte, api.Errno) {
	out := []byte(magic)
	for _, f := range fields {
		b, fits := f.encoding()
		if !fits {
			return nil, api.ErrArg
		}
		out = append(out, b...)
	}
	return sealed(out...), api.OK
}

// sound answers the bytes of a magic and fields that can all be written.
func sound(t *testing.T, magic string, fields ...field) []byte {
	t.Helper()
	b, err := made(magic, fields...)
	if err != api.OK {
		t.Fatalf("%v can't be written", fields)
	}
	return b
}

// model is what a reader is to be: it has all the bytes, where it reads, where the fields end, and the error with which it failed.
type model struct {
	b       []byte
	at, end int
	err     api.Errno
}

func newModel(magic string, b []byte) *model {
	m := &model{b: bytes.Clone(b), at: len(magic), end: len(b) - 4}
	switch {
	case len(b) < len(magic)+4:
		m.err = api.ErrShort
	case sumOf(b[:m.end]) != uint32(b[m.end])|uint32(b[m.end+1])<<8|uint32(b[m.end+2])<<16|uint32(b[m.end+3])<<24:
		m.err = api.ErrSum
	case string(b[:len(magic)]) != magic:
		m.err = api.ErrForm
	}
	return m
}

// read answers what a read is to answer: a field of its kind.
func (m *model) read(r ask) field {
	out := field{kind: r.kind}
	if m.err != api.OK {
		return out
	}
	switch r.kind {
	case isNum, isSeq:
		n, size, err := m.varint()
		if m.err = err; err != api.OK {
			break
		}
		m.at += size
		if r.kind == isSeq {
			out.seq = n
		} else if most := r.most; most >= 0 && n <= uint64(most) {
			out.n = int(n)
		} else {
			m.err = api.ErrRange
		}
	case isText:
		if m.at == m.end || m.at+1+int(m.b[m.at]) > m.end {
			m.err = api.ErrShort
			break
		}
		size := int(m.b[m.at])
		out.text = string(m.b[m.at+1 : m.at+1+size])
		m.at += 1 + size
	case isDigest:
		if m.at+32 > m.end {
			m.err = api.ErrShort
			break
		}
		for i := range out.digest {
			out.digest[i] = m.b[m.at+i]
		}
		m.at += 32
	}
	return out
}

// varint answers the number at which the model reads, how many bytes it has, and the first error of these.
func (m *model) varint() (uint64, int, api.Errno) {
	n, power := uint64(0), uint64(1)
	for i := 0; ; i++ {
		if m.at+i == m.end {
			return 0, 0, api.ErrShort
		}
		c := m.b[m.at+i]
		if i == 9 && c > 1 {
			return 0, 0, api.ErrRange
		}
		n += uint64(c&127) * power
		power *= 128
		if c < 128 {
			if c == 0 && i > 0 {
				return 0, 0, api.ErrForm
			}
			return n, i + 1, api.OK
		}
	}
}

func (m *model) endErr() api.Errno {
	if m.err == api.OK && m.at < m.end {
		return api.ErrForm
	}
	return m.err
}

// written answers a writer to which the fields were written.
func written(magic string, fields ...field) *Writer {
	w := NewWriter(magic)
	for _, f := range fields {
		put(w, f)
	}
	return w
}

// put writes a field.
func put(w *Writer, f field) {
	switch f.kind {
	case isNum:
		w.Num(f.n)
	case isSeq:
		w.Seq(f.seq)
	case isText:
		w.Text(f.text)
	case isDigest:
		w.Digest(f.digest)
	}
}

// take reads a field.
func take(r *Reader, x ask) field {
	out := field{kind: x.kind}
	switch x.kind {
	case isNum:
		out.n = r.Num(x.most)
	case isSeq:
		out.seq = r.Seq()
	case isText:
		out.text = r.Text()
	case isDigest:
		out.digest = r.Digest()
	}
	return out
}

// asks are reads of all kinds, and of numbers with several limits.
func asks() []ask {
	return []ask{{kind: isSeq}, {kind: isText}, {kind: isDigest}, {isNum, math.MaxInt}, {isNum, 0}, {isNum, -1}, {isNum, 300}}
}

// pair is a reader and what it is to be. Each read is done to both; if often is set, End is asked for behind each of them.
type pair struct {
	t     *testing.T
	r     *Reader
	m     *model
	often bool
}

func newPair(t *testing.T, magic string, b []byte) *pair {
	return &pair{t: t, r: NewReader(magic, b), m: newModel(magic, b)}
}

func (p *pair) read(x ask) field {
	p.t.Helper()
	want := p.m.read(x)
	got := take(p.r, x)
	if got != want {
		p.t.Fatalf("read %v of % x: %v, want %v", x, p.m.b, got, want)
	}
	if p.often {
		p.end()
	}
	return got
}

func (p *pair) end() api.Errno {
	p.t.Helper()
	got, want := p.r.End(), p.m.endErr()
	if got != want {
		p.t.Fatalf("End of % x at %d: %v, want %v", p.m.b, p.m.at, got, want)
	}
	return got
}

// failed wants the reader to have failed with an error and to keep it, whatever is read.
func (p *pair) failed(want api.Errno) {
	p.t.Helper()
	checkFailed(p.t, p.r, want)
	for _, x := range asks() {
		p.read(x)
	}
	if got := p.end(); got != want {
		p.t.Fatalf("End of % x: %v, want %v", p.m.b, got, want)
	}
}

// checkBytes wants what the writer answers to be what the chapter says of these fields, as often as it is asked.
func checkBytes(t *testing.T, w *Writer, magic string, fields ...field) []byte {
	t.Helper()
	want, wantErr := made(magic, fields...)
	for range 2 {
		if b, err := w.Bytes(); err != wantErr || !bytes.Equal(b, want) {
			t.Fatalf("Bytes of %q and %v: % x, %v, want % x, %v", magic, fields, b, err, want, wantErr)
		}
	}
	b, _ := w.Bytes()
	return b
}

// checkFailed wants all reads to return zero values, and End to return the error each time.
func checkFailed(t *testing.T, r *Reader, want api.Errno) {
	t.Helper()
	for range 2 {
		for _, x := range asks() {
			if got := take(r, x); got != (field{kind: x.kind}) {
				t.Fatalf("read %v behind %v: %v", x, want, got)
			}
		}
		if err := r.End(); err != want {
			t.Fatalf("End: %v, want %v", err, want)
		}
	}
}

// checkInverse wants the fields to be read as they were written, with the least limits that let the numbers pass, and nothing to be left.
func checkInverse(t *testing.T, magic string, fields ...field) {
	t.Helper()
	b := checkBytes(t, written(magic, fields...), magic, fields...)
	r := NewReader(magic, b)
	for i, f := range fields {
		if got := take(r, ask{f.kind, f.n}); got != f {
			t.Fatalf("field %d of %v: %v", i, fields, got)
		}
	}
	if err := r.End(); err != api.OK {
		t.Fatalf("End behind %v: %v", fields, err)
	}
}

// rowsOf answers all rows of up to size of the elements of l.
func rowsOf[T any](size int, l []T) [][]T {
	out := [][]T{nil}
	last := out
	for range size {
		var next [][]T
		for _, row := range last {
			for _, v := range l {
				next = append(next, append(slices.Clone(row), v))
			}
		}
		out = append(out, next...)
		last = next
	}
	return out
}

// inverted answers b with the bits inverted that p has, from bit first on; bits outside of b are left out.
func inverted(b []byte, first int, p uint64) []byte {
	out := bytes.Clone(b)
	for i := range 64 {
		if bit := first + i; p>>i&1 == 1 && bit >= 0 && bit < 8*len(b) {
			out[bit/8] ^= 1 << (bit % 8)
		}
	}
	return out
}

// spoil changes each byte of b, and of the memory behind it that belongs to it.
func spoil(b []byte) {
	b = b[:cap(b)]
	for i := range b {
		b[i] ^= 0x5a
	}
}

// pattern answers bytes of which no two near each other are alike.
func pattern(size int) []byte {
	out := make([]byte, size)
	for i := range out {
		out[i] = byte(i*i + 3*i + i>>8 + 100)
	}
	return out
}
