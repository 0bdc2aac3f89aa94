package record

import (
	"bytes"
	"encoding/binary"
	"hash/crc32"
	"math"
	"slices"
	"strings"
	"testing"

	"stillage/api"
)

// kinds are the eight; noKinds are none of them, some of which have the same lowest byte.
var (
	kinds   = []int{api.RecBlob, api.RecManifest, api.RecTag, api.RecUntag, api.RecDelete, api.RecCommit, api.RecHeader, api.RecFooter}
	noKinds = []int{0, 9, 10, 16, 127, 128, 255, 256, 257, 258, 264, 265, -1, -2, -7, -8, -248, -255, -256, 1 << 32, 1<<32 + 1, 1<<32 + 8, -1<<32 + 3, math.MaxInt32, math.MinInt32, math.MaxInt, math.MaxInt - 251, math.MinInt, math.MinInt + 1, math.MinInt + 8}
)

// seqs are sequence numbers, also those that no log has.
var seqs = []uint64{0, 1, 2, 77, 255, 256, 1<<31 - 1, 1 << 32, 1<<40 + 5, 0x0102030405060708, 1<<63 - 1, 1 << 63, 1<<64 - 1<<32, math.MaxUint64 - 1, math.MaxUint64}

// numbers are such as may be, and such as may not, as an N or a Size.
var numbers = []int{-1, 0, 1, 2, 255, 256, 1<<31 - 1, 1 << 31, 1<<32 - 2, 1<<32 - 1, 1 << 32, 1<<32 + 1, 1 << 40, api.MaxNumber - 1, api.MaxNumber, api.MaxNumber + 1, -2, -api.MaxNumber, -1 << 32, -1<<32 + 1, math.MinInt, math.MinInt + 1, math.MinInt32, math.MaxInt - 1, math.MaxInt}

// sample is a digest of which no two bytes are alike.
var sample = digestFrom(1)

// digestFrom answers the digest of the bytes first, first + 1 and so on.
func digestFrom(first int) api.Digest {
	var out api.Digest
	for i := range out {
		out[i] = byte(first + i)
	}
	return out
}

// full answers a record of any kind with all fields set, as they may be in every kind.
func full(kind int) api.Record {
	return api.Record{Kind: kind, Seq: 77, Digest: sample, Name: "v1", Data: []byte("xyz"), N: 3, Size: 99}
}

// variants are records of a kind, with all fields set: each of them may be, and says something else than the others.
func variants(kind int) []api.Record {
	r := full(kind)
	out := []api.Record{r}
	more := func(change func(r *api.Record)) {
		c := r
		change(&c)
		out = append(out, c)
	}
	more(func(r *api.Record) { r.Seq = 78 })
	more(func(r *api.Record) { r.Seq = 77 << 8 })
	more(func(r *api.Record) { r.Digest = api.Digest{} })
	more(func(r *api.Record) { r.Digest[0]++ })
	more(func(r *api.Record) { r.Digest[31]++ })
	more(func(r *api.Record) { r.Name = "v" })
	more(func(r *api.Record) { r.Name = "v11" })
	more(func(r *api.Record) { r.Name = "1v" })
	more(func(r *api.Record) { r.Name = strings.Repeat("z", 32) })
	more(func(r *api.Record) { r.Data = nil })
	more(func(r *api.Record) { r.Data = []byte{0} })
	more(func(r *api.Record) { r.Data = []byte("xyzz") })
	more(func(r *api.Record) { r.Data = pattern(api.MaxSeg - 32) })
	more(func(r *api.Record) { r.N = 4 })
	more(func(r *api.Record) { r.N, r.Size = 99, 3 })
	more(func(r *api.Record) { r.N = api.MaxNumber })
	more(func(r *api.Record) { r.Size = 1<<32 - 1 })
	more(func(r *api.Record) { r.Size = 0 })
	return out
}

// names answers names that are valid, and such that are not.
func names() (right, wrong []string) {
	right = []string{"a", "0", "z", "9", "v1", "v1.0_x-y", "a.", "0-", "latest", strings.Repeat("a", 31), strings.Repeat("z", 32), "a" + strings.Repeat("-", 31)}
	wrong = []string{"", "V1", "V", ".", "-", "_", ".a", "-0", "a b", " ", "a/b", "\x00", "a\x00", "\xff", "é", "aé", "v1\n"}
	for _, size := range []int{33, 34, 64, 254, 255, 256, 257, 258, 288, 289, 512, 70000} {
		wrong = append(wrong, strings.Repeat("a", size))
	}
	for at := range 32 {
		wrong = append(wrong, strings.Repeat("b", at)+"A"+strings.Repeat("c", 31-at))
		wrong = append(wrong, strings.Repeat("b", at)+"\x80"+strings.Repeat("c", 31-at))
	}
	return right, wrong
}

// pattern answers bytes of which no two near each other are alike.
func pattern(size int) []byte {
	out := make([]byte, size)
	for i := range out {
		out[i] = byte(i*i + 3*i + i>>8 + 100)
	}
	return out
}

// kept answers r without what the chapter says is ignored.
func kept(r api.Record) api.Record {
	switch r.Kind {
	case 1, 2:
		return api.Record{Kind: r.Kind, Seq: r.Seq, Digest: r.Digest, Data: r.Data}
	case 3:
		return api.Record{Kind: 3, Seq: r.Seq, Name: r.Name, Digest: r.Digest}
	case 4:
		return api.Record{Kind: 4, Seq: r.Seq, Name: r.Name}
	case 5:
		return api.Record{Kind: 5, Seq: r.Seq, Digest: r.Digest}
	case 6, 8:
		return api.Record{Kind: r.Kind, Seq: r.Seq, N: r.N, Size: r.Size}
	case 7:
		return api.Record{Kind: 7, Seq: r.Seq, N: r.N}
	}
	return api.Record{Kind: r.Kind, Seq: r.Seq}
}

// wrongOf answers the error that the chapter names for r.
func wrongOf(r api.Record) api.Errno {
	if r.Kind < 1 || r.Kind > 8 {
		return api.ErrArg
	}
	if r.Kind <= 2 && len(r.Data) > 65504 {
		return api.ErrLarge
	}
	if (r.Kind == 3 || r.Kind == 4) && !isTag(r.Name) {
		return api.ErrName
	}
	if (r.Kind == 6 || r.Kind == 8) && (r.N < 0 || r.N > 4294967295 || r.Size < 0 || r.Size > 4294967295) {
		return api.ErrRange
	}
	if r.Kind == 7 && (r.N < 1 || r.N > 99999999) {
		return api.ErrRange
	}
	return api.OK
}

func isTag(s string) bool {
	const first = "abcdefghijklmnopqrstuvwxyz0123456789"
	if len(s) < 1 || len(s) > 32 || strings.IndexByte(first, s[0]) < 0 {
		return false
	}
	for i := range len(s) {
		if strings.IndexByte(first+"._-", s[i]) < 0 {
			return false
		}
	}
	return true
}

// bodyOf answers the data of the frame of r, which is right.
func bodyOf(r api.Record) []byte {
	switch r.Kind {
	case 1, 2:
		return slices.Concat(r.Digest[:], r.Data)
	case 3:
		return slices.Concat([]byte{byte(len(r.Name))}, []byte(r.Name), r.Digest[:])
	case 4:
		return slices.Concat([]byte{byte(len(r.Name))}, []byte(r.Name))
	case 5:
		return slices.Clone(r.Digest[:])
	case 6, 8:
		return countsOf(uint32(r.N), uint32(r.Size))
	}
	return headerOf("stillage", uint64(r.N))
}

func countsOf(n, size uint32) []byte {
	return binary.LittleEndian.AppendUint32(binary.LittleEndian.AppendUint32(nil, n), size)
}

func headerOf(mark string, n uint64) []byte {
	return binary.LittleEndian.AppendUint64([]byte(mark), n)
}

// frameOf answers the frame with the right checksums, whatever it says.
func frameOf(kind int, seq uint64, data []byte) []byte {
	out := binary.LittleEndian.AppendUint64([]byte{byte(kind)}, seq)
	out = binary.LittleEndian.AppendUint32(out, uint32(len(data)))
	out = binary.LittleEndian.AppendUint32(out, sumOf(out))
	out = append(out, data...)
	return binary.LittleEndian.AppendUint32(out, sumOf(out))
}

func sumOf(b []byte) uint32 { return crc32.Checksum(b, crc32.MakeTable(crc32.Castagnoli)) }

// unframed answers the kind, the sequence number and the data of the frame at an index, as chapter 13 describes them, and the index behind it.
func unframed(b []byte, at int) (int, uint64, []byte, int, api.Errno) {
	if at < 0 || at > len(b) {
		return 0, 0, nil, 0, api.ErrArg
	}
	b = b[at:]
	if len(b) < 17 {
		return 0, 0, nil, 0, api.ErrShort
	}
	if sumOf(b[:13]) != binary.LittleEndian.Uint32(b[13:]) {
		return 0, 0, nil, 0, api.ErrSum
	}
	size := int(binary.LittleEndian.Uint32(b[9:]))
	if b[0] < 1 || b[0] > 8 || size > 65536 {
		return 0, 0, nil, 0, api.ErrForm
	}
	if len(b) < size+21 {
		return 0, 0, nil, 0, api.ErrShort
	}
	if sumOf(b[:size+17]) != binary.LittleEndian.Uint32(b[size+17:]) {
		return 0, 0, nil, 0, api.ErrSum
	}
	return int(b[0]), binary.LittleEndian.Uint64(b[1:]), b[17 : size+17], at + size + 21, api.OK
}

// readOf answers the record that data of a kind say, whose form is right, and whether it is.
func readOf(kind int, seq uint64, data []byte) (api.Record, bool) {
	r := api.Record{Kind: kind, Seq: seq}
	name := 0
	if kind == 3 || kind == 4 {
		if len(data) == 0 || len(data) < 1+int(data[0]) {
			return r, false
		}
		name = 1 + int(data[0])
		r.Name = string(data[1:name])
	}
	switch kind {
	case 1, 2:
		if len(data) < 32 {
			return r, false
		}
		r.Digest, r.Data = api.Digest(data[:32]), data[32:]
	case 3, 5:
		if len(data) != name+32 {
			return r, false
		}
		r.Digest = api.Digest(data[name:])
	case 4:
		return r, len(data) == name
	case 6, 8:
		if len(data) != 8 {
			return r, false
		}
		r.N, r.Size = int(binary.LittleEndian.Uint32(data)), int(binary.LittleEndian.Uint32(data[4:]))
	case 7:
		if len(data) != 16 || string(data[:8]) != "stillage" {
			return r, false
		}
		// Whatever is more than any N may be is told as an N that is too great.
		r.N = int(min(binary.LittleEndian.Uint64(data[8:]), 1<<40))
	}
	return r, true
}

// parsedOf answers what the chapter says of Parse, one rule after the other.
func parsedOf(b []byte, at int) (api.Record, int, api.Errno) {
	kind, seq, data, end, err := unframed(b, at)
	if err != api.OK {
		return api.Record{}, 0, err
	}
	r, whole := readOf(kind, seq, data)
	if !whole {
		return api.Record{}, 0, api.ErrForm
	}
	if err := wrongOf(r); err != api.OK {
		return api.Record{}, 0, err
	}
	return r, end, api.OK
}

// wordOf answers what the chapter says of Word.
func wordOf(r api.Record, l api.Loc) api.Word {
	out := api.Word{Kind: r.Kind, Seq: r.Seq, Loc: l}
	switch r.Kind {
	case 1, 2:
		out.Digest, out.Size = r.Digest, len(r.Data)
	case 3:
		out.Digest, out.Name = r.Digest, r.Name
	case 4:
		out.Name = r.Name
	case 5:
		out.Digest = r.Digest
	case 6, 8:
		out.Size = r.Size
	}
	return out
}

// same tells whether two records are equal; nil and empty Data are.
func same(r, s api.Record) bool {
	return r.Kind == s.Kind && r.Seq == s.Seq && r.Digest == s.Digest && r.Name == s.Name && bytes.Equal(r.Data, s.Data) && r.N == s.N && r.Size == s.Size
}

// brief answers what is told of a record; its Data may be long.
func brief(r api.Record) api.Record {
	r.Data = r.Data[:min(len(r.Data), 8)]
	r.Name = r.Name[:min(len(r.Name), 40)]
	return r
}

// checkRecord holds Right, Make, Size and Word of r against the words of the chapter, and sees that what Make answers is read as it should be.
func checkRecord(t *testing.T, r api.Record) {
	t.Helper()
	err := wrongOf(r)
	var want []byte
	if err == api.OK {
		want = frameOf(r.Kind, r.Seq, bodyOf(r))
	}
	if got := Right(r); got != err {
		t.Errorf("Right(%+v, %d bytes): %v, want %v", brief(r), len(r.Data), got, err)
	}
	got, gotErr := Make(r)
	if gotErr != err || !bytes.Equal(got, want) {
		t.Errorf("Make(%+v, %d bytes): %d bytes, %v, want %d bytes, %v", brief(r), len(r.Data), len(got), gotErr, len(want), err)
	}
	if size := Size(r); size != len(want) {
		t.Errorf("Size(%+v, %d bytes): %d, want %d", brief(r), len(r.Data), size, len(want))
	}
	checkWord(t, r, api.Loc{Seg: 4, Off: 37, Len: len(want)})
	if err == api.OK {
		checkParsed(t, got, 0, kept(r), len(want))
	}
}

// checkFails sees that r is refused with an error, and that nothing comes with it.
func checkFails(t *testing.T, r api.Record, want api.Errno) {
	t.Helper()
	if err := Right(r); err != want {
		t.Errorf("Right(%+v, %d bytes): %v, want %v", brief(r), len(r.Data), err, want)
	}
	if b, err := Make(r); err != want || len(b) != 0 {
		t.Errorf("Make(%+v, %d bytes): %d bytes, %v, want %v", brief(r), len(r.Data), len(b), err, want)
	}
	if size := Size(r); size != 0 {
		t.Errorf("Size(%+v, %d bytes): %d, want 0", brief(r), len(r.Data), size)
	}
	checkRecord(t, r)
}

func checkWord(t *testing.T, r api.Record, l api.Loc) {
	t.Helper()
	if got, want := Word(r, l), wordOf(r, l); got != want {
		t.Errorf("Word(%+v, %d bytes, %v): %+v, want %+v", brief(r), len(r.Data), l, got, want)
	}
}

func checkParsed(t *testing.T, b []byte, at int, want api.Record, wantEnd int) {
	t.Helper()
	r, end, err := Parse(b, at)
	if err != api.OK || end != wantEnd || !same(r, want) {
		t.Errorf("Parse(%d bytes, %d): %+v, %d, %v, want %+v, %d", len(b), at, brief(r), end, err, brief(want), wantEnd)
	}
}

// checkRefused sees that no record is read, and no index told.
func checkRefused(t *testing.T, b []byte, at int, want api.Errno) {
	t.Helper()
	r, end, err := Parse(b, at)
	if err != want || end != 0 || !same(r, api.Record{}) {
		t.Errorf("Parse(% x, %d): %+v, %d, %v, want %v", b[:min(len(b), 100)], at, brief(r), end, err, want)
	}
	checkParse(t, b, at)
}

// checkData reads a frame with these data and the right checksums.
func checkData(t *testing.T, kind int, data []byte, want api.Errno) {
	t.Helper()
	if want != api.OK {
		checkRefused(t, frameOf(kind, 5, data), 0, want)
		checkRefused(t, slices.Concat([]byte{1, 2, 3}, frameOf(kind, 5, data), []byte{4}), 3, want)
		return
	}
	if err := checkParse(t, frameOf(kind, 5, data), 0); err != api.OK {
		t.Errorf("kind %d, data % x: %v", kind, data[:min(len(data), 100)], err)
	}
}

// checkParse holds Parse against the words of the chapter, sees that Make answers the frame that was read, and answers the error.
func checkParse(t *testing.T, b []byte, at int) api.Errno {
	t.Helper()
	want, wantEnd, wantErr := parsedOf(b, at)
	r, end, err := Parse(b, at)
	if err != wantErr || end != wantEnd || !same(r, want) {
		t.Errorf("Parse(% x, %d): %+v, %d, %v, want %+v, %d, %v", b[:min(len(b), 100)], at, brief(r), end, err, brief(want), wantEnd, wantErr)
		return err
	}
	if err != api.OK {
		return err
	}
	if again, err := Make(r); err != api.OK || !bytes.Equal(again, b[at:end]) {
		t.Errorf("Make of what was read at %d: %d bytes, %v, want % x", at, len(again), err, b[at:min(end, at+100)])
	}
	return api.OK
}

// spoil changes each byte of b, and of the memory behind it that belongs to it.
func spoil(b []byte) {
	b = b[:cap(b)]
	for i := range b {
		b[i] ^= 0x5a
	}
}

// changed answers b with the byte at index i another one.
func changed(b []byte, i int, by byte) []byte {
	out := slices.Clone(b)
	out[i] ^= by
	return out
}
