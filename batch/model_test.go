package batch

import (
	"bytes"
	"math"
	"math/big"
	"slices"
	"strconv"
	"strings"
	"testing"

	"stillage/api"
	"stillage/frame"
	"stillage/record"
)

// members are the five kinds; others are none of them, some of which have the same lowest byte.
var (
	members = []int{api.RecBlob, api.RecManifest, api.RecTag, api.RecUntag, api.RecDelete}
	others  = []int{0, 6, 7, 8, 9, 10, -1, -2, -5, -6, 16, 127, 128, 255, 256, 257, 258, 261, 262, 1 << 32, 1<<32 + 1, 1<<32 + 5, -1<<32 + 3, math.MaxInt32, math.MinInt32, math.MaxInt, math.MaxInt - 250, math.MinInt, math.MinInt + 1, math.MinInt + 5}
)

// greatest is that of all sequence numbers.
const greatest = math.MaxUint64

// sample is a digest of which no two bytes are alike.
var sample = digestFrom(1)

// digestFrom answers the digest of the bytes first, first + 1 and so on.
func digestFrom(first int) api.Digest {
	var out api.Digest
	for i := range out {
		out[i] = byte(first + i)
	}
	return out
}

// pattern answers bytes of which no two near each other are alike.
func pattern(size int) []byte {
	out := make([]byte, size)
	for i := range out {
		out[i] = byte(i*i + 3*i + i>>8 + 100)
	}
	return out
}

// member answers a record of a kind in which all fields are set, another one for each i.
func member(kind, i int) api.Record {
	return api.Record{Kind: kind, Seq: uint64(1000 - i), Digest: digestFrom(i), Name: "v" + strconv.Itoa(i), Data: pattern(i % 5), N: i, Size: -i}
}

// mixed answers as many records as there are kinds, one of each.
func mixed(kinds ...int) []api.Record {
	var out []api.Record
	for i, kind := range kinds {
		out = append(out, member(kind, i))
	}
	return out
}

// rows answers size records of all kinds.
func rows(size int) []api.Record {
	var out []api.Record
	for i := range size {
		out = append(out, member(members[(i+i/5)%5], i))
	}
	return out
}

// wrongs answers records of a kind that record.Right refuses, and with which error; none for a kind of which all are right.
func wrongs(kind int) ([]api.Record, api.Errno) {
	switch kind {
	case api.RecBlob, api.RecManifest:
		r := member(kind, 2)
		r.Data = make([]byte, api.MaxSeg-31)
		return []api.Record{r, {Kind: kind, Data: make([]byte, api.MaxSeg+1)}}, api.ErrLarge
	case api.RecTag, api.RecUntag:
		r := member(kind, 2)
		r.Name = "V1"
		return []api.Record{r, {Kind: kind}, {Kind: kind, Name: strings.Repeat("a", 33)}}, api.ErrName
	}
	return nil, api.OK
}

// worst answers a record of a kind whose fields may be in no kind that has them.
func worst(kind int) api.Record {
	return api.Record{Kind: kind, Seq: 5, Digest: sample, Name: "V1", Data: make([]byte, api.MaxSeg-31), N: -1, Size: 1 << 32}
}

// lengthOf answers the length of the frame of a record that is right.
func lengthOf(r api.Record) int {
	switch r.Kind {
	case 1, 2:
		return 21 + 32 + len(r.Data)
	case 3:
		return 21 + 1 + len(r.Name) + 32
	case 4:
		return 21 + 1 + len(r.Name)
	case 5:
		return 21 + 32
	case 7:
		return 21 + 16
	}
	return 21 + 8
}

// lengthsOf answers the length of the frames of all records of l.
func lengthsOf(l []api.Record) int {
	out := 0
	for _, r := range l {
		out += lengthOf(r)
	}
	return out
}

// wrongOf answers the error that the chapter names for the records of l.
func wrongOf(l []api.Record) api.Errno {
	all := map[int]bool{1: true, 2: true, 3: true, 4: true, 5: true}
	if len(l) == 0 || slices.ContainsFunc(l, func(r api.Record) bool { return !all[r.Kind] }) {
		return api.ErrArg
	}
	for _, r := range l {
		if err := record.Right(r); err != api.OK {
			return err
		}
	}
	return api.OK
}

// madeOf answers what the chapter says of Make, one rule after the other.
func madeOf(l []api.Record, seq uint64) ([]byte, uint64, api.Errno) {
	if err := wrongOf(l); err != api.OK {
		return nil, seq, err
	}
	next := new(big.Int).SetUint64(seq)
	next.Add(next, big.NewInt(int64(len(l))+1))
	if !next.IsUint64() {
		return nil, seq, api.ErrRange
	}
	return whole(numbered(l, seq)), next.Uint64(), api.OK
}

// numbered answers the records of l with the numbers from seq on, 0 behind the greatest one.
func numbered(l []api.Record, seq uint64) []api.Record {
	out := slices.Clone(l)
	for i := range out {
		out[i].Seq = seq + uint64(i)
	}
	return out
}

// commitFor answers the commit of a batch of the records of l, with the number behind that of the last one.
func commitFor(l []api.Record) api.Record {
	return api.Record{Kind: api.RecCommit, Seq: l[len(l)-1].Seq + 1, N: len(l), Size: lengthsOf(l)}
}

// whole answers the batch of the records of l with the numbers that they have.
func whole(l []api.Record) []byte { return frames(append(slices.Clone(l), commitFor(l))...) }

// frames answers the frames of records, one behind the other.
func frames(l ...api.Record) []byte {
	var out []byte
	for _, r := range l {
		b, err := record.Make(r)
		if err != api.OK {
			panic("no record: " + err.Error())
		}
		out = append(out, b...)
	}
	return out
}

// wordsOf answers what the records of l say, that have the numbers from seq on and begin at index at of the segment seg.
func wordsOf(l []api.Record, seq uint64, at, seg int) []api.Word {
	var out []api.Word
	for i, r := range l {
		w := api.Word{Kind: r.Kind, Seq: seq + uint64(i), Loc: api.Loc{Seg: seg, Off: at, Len: lengthOf(r)}}
		switch r.Kind {
		case 1, 2:
			w.Digest, w.Size = r.Digest, len(r.Data)
		case 3:
			w.Digest, w.Name = r.Digest, r.Name
		case 4:
			w.Name = r.Name
		case 5:
			w.Digest = r.Digest
		}
		out = append(out, w)
		at += w.Loc.Len
	}
	return out
}

// found is what Parse answers.
type found struct {
	words []api.Word
	end   int
	seq   uint64
	err   api.Errno
}

// parsed answers what Parse does.
func parsed(b []byte, at, seg int) found {
	words, end, seq, err := Parse(b, at, seg)
	return found{words, end, seq, err}
}

func (f found) is(g found) bool {
	return slices.Equal(f.words, g.words) && f.end == g.end && f.seq == g.seq && f.err == g.err
}

// brief answers f with a few of its words.
func (f found) brief() found {
	f.words = f.words[:min(len(f.words), 3)]
	return f
}

// parsedOf answers what the chapter says of Parse: all frames are read, and then they are asked one after the other.
func parsedOf(b []byte, at, seg int) found {
	type read struct {
		r       api.Record
		at, end int
	}
	var all []read
	i := at
	r, end, err := record.Parse(b, i)
	for err == api.OK {
		all = append(all, read{r, i, end})
		i = end
		r, end, err = record.Parse(b, i)
	}
	var out found
	for i, f := range all {
		if i > 0 && (f.r.Seq == 0 || f.r.Seq-1 != all[i-1].r.Seq) {
			return found{err: api.ErrForm}
		}
		switch f.r.Kind {
		case 6:
			if i == 0 || f.r.N != i || f.r.Size != f.at-at {
				return found{err: api.ErrForm}
			}
			out.end, out.seq = f.end, f.r.Seq
			return out
		case 7, 8:
			return found{err: api.ErrForm}
		}
		out.words = append(out.words, record.Word(f.r, api.Loc{Seg: seg, Off: f.at, Len: f.end - f.at}))
	}
	return found{err: err}
}

// checkMake holds Make and Size against the words of the chapter, and sees that what Make answers is read as it should be.
func checkMake(t *testing.T, l []api.Record, seq uint64) {
	t.Helper()
	want, wantNext, wantErr := madeOf(l, seq)
	got, next, err := Make(l, seq)
	if err != wantErr || next != wantNext || !bytes.Equal(got, want) {
		t.Errorf("Make(%s, %d): %d bytes, %d, %v, want %d bytes, %d, %v", told(l), seq, len(got), next, err, len(want), wantNext, wantErr)
	}
	wantSize := 0
	if wrongOf(l) == api.OK {
		wantSize = lengthsOf(l) + 29
	}
	if size := Size(l); size != wantSize {
		t.Errorf("Size(%s): %d, want %d", told(l), size, wantSize)
	}
	if err == api.OK {
		checkFound(t, got, 0, 1, found{wordsOf(l, seq, 0, 1), len(got), seq + uint64(len(l)), api.OK})
	}
}

// checkFails sees that l is refused with an error: nothing comes with it but seq.
func checkFails(t *testing.T, l []api.Record, seq uint64, want api.Errno) {
	t.Helper()
	if b, next, err := Make(l, seq); err != want || next != seq || len(b) != 0 {
		t.Errorf("Make(%s, %d): %d bytes, %d, %v, want %v", told(l), seq, len(b), next, err, want)
	}
	wantSize := 0
	if want == api.ErrRange {
		wantSize = lengthsOf(l) + 29
	}
	if size := Size(l); size != wantSize {
		t.Errorf("Size(%s): %d, want %d", told(l), size, wantSize)
	}
}

// told answers the kinds of the first records of l.
func told(l []api.Record) string {
	out := strconv.Itoa(len(l)) + " records"
	for _, r := range l[:min(len(l), 8)] {
		out += " " + strconv.Itoa(r.Kind)
	}
	return out
}

// checkFound sees that Parse answers what is wanted.
func checkFound(t *testing.T, b []byte, at, seg int, want found) {
	t.Helper()
	if got := parsed(b, at, seg); !got.is(want) {
		t.Errorf("Parse(%d bytes, %d, %d): %+v, want %+v", len(b), at, seg, got.brief(), want.brief())
	}
	checkParse(t, b, at, seg)
}

// checkRefused sees that Parse answers an error and nothing else.
func checkRefused(t *testing.T, b []byte, at int, want api.Errno) {
	t.Helper()
	checkFound(t, b, at, 3, found{err: want})
}

// checkParse holds Parse against the words of the chapter, and answers the error.
func checkParse(t *testing.T, b []byte, at, seg int) api.Errno {
	t.Helper()
	got, want := parsed(b, at, seg), parsedOf(b, at, seg)
	if !got.is(want) {
		t.Errorf("Parse(% x, %d, %d): %+v, want %+v", b[:min(len(b), 100)], at, seg, got.brief(), want.brief())
	}
	return got.err
}

// broken are frames with any number that record.Parse refuses, by its error; none of them is as short as ErrShort has it.
func broken(seq uint64) map[api.Errno][][]byte {
	sound, _ := record.Make(api.Record{Kind: api.RecDelete, Seq: seq, Digest: sample})
	return map[api.Errno][][]byte{
		api.ErrSum:   {changed(sound, 0), changed(sound, 5), changed(sound, 13), changed(sound, 20), changed(sound, 52), make([]byte, 60)},
		api.ErrForm:  {frame.Make(1, seq, []byte("short")), frame.Make(9, seq, nil), frame.Make(0, seq, nil), frame.Make(6, seq, make([]byte, 7)), frame.Make(7, seq, []byte("stillagf\x01\x00\x00\x00\x00\x00\x00\x00")), frame.Make(5, seq, make([]byte, 33))},
		api.ErrName:  {frame.Make(4, seq, []byte("\x02V1")), frame.Make(4, seq, []byte{0}), frame.Make(3, seq, slices.Concat([]byte("\x02V1"), sample[:]))},
		api.ErrRange: {frame.Make(7, seq, []byte("stillage\x00\x00\x00\x00\x00\x00\x00\x00")), frame.Make(7, seq, []byte("stillage\xff\xff\xff\xff\xff\xff\xff\xff"))},
	}
}

// changed answers b with another byte at index i.
func changed(b []byte, i int) []byte {
	out := slices.Clone(b)
	out[i] ^= 64
	return out
}

// spoil changes each byte of b, and of the memory behind it that belongs to it.
func spoil(b []byte) {
	b = b[:cap(b)]
	for i := range b {
		b[i] ^= 0x5a
	}
}
