package segment

import (
	"bytes"
	"math"
	"slices"
	"strconv"
	"testing"

	"stillage/api"
	"stillage/batch"
	"stillage/frame"
	"stillage/record"
)

const (
	greatest = math.MaxUint64 // of all sequence numbers
	maxCount = 1<<32 - 1      // of all that footers and commits count
	headSize = 37             // bytes of a header
	footSize = 29             // bytes of a footer or a commit
)

// members are the five kinds of records that batches have.
var members = []int{api.RecBlob, api.RecManifest, api.RecTag, api.RecUntag, api.RecDelete}

// sample is a digest of which no two bytes are alike.
var sample = digestFrom(1)

// digestFrom answers the digest of the bytes first, first + 1 and so on.
func digestFrom(first int) api.Digest {
	var out api.Digest
	for i := range out {
		out[i] = byte(first + i)
	}
	return out
}

// pattern answers bytes of which no two near each other are alike.
func pattern(size int) []byte {
	out := make([]byte, size)
	for i := range out {
		out[i] = byte(i*i + 3*i + i>>8 + 100)
	}
	return out
}

// member answers a record of one of the five kinds with the fields of that kind, another one for each i.
func member(kind, i int) api.Record {
	out := api.Record{Kind: kind}
	if kind != api.RecUntag {
		out.Digest = digestFrom(i)
	}
	switch kind {
	case api.RecBlob, api.RecManifest:
		out.Data = pattern(i % 5)
	case api.RecTag, api.RecUntag:
		out.Name = "v" + strconv.Itoa(i)
	}
	return out
}

// mixed answers as many records as there are kinds, one of each.
func mixed(kinds ...int) []api.Record {
	var out []api.Record
	for i, kind := range kinds {
		out = append(out, member(kind, i))
	}
	return out
}

// rows answers size records of all five kinds.
func rows(size int) []api.Record {
	var out []api.Record
	for i := range size {
		out = append(out, member(members[(i+i/5)%5], i))
	}
	return out
}

// numbered answers the records of l with the numbers from seq on.
func numbered(seq uint64, l []api.Record) []api.Record {
	out := slices.Clone(l)
	for i := range out {
		out[i].Seq = seq + uint64(i)
	}
	return out
}

// frames answers the frames of records, one behind the other.
func frames(l ...api.Record) []byte {
	var out []byte
	for _, r := range l {
		b, err := record.Make(r)
		if err != api.OK {
			panic("no record: " + err.Error())
		}
		out = append(out, b...)
	}
	return out
}

// batchOf answers the batch of the records of l with the numbers from seq on, of which the commit may have the greatest.
func batchOf(seq uint64, l ...api.Record) []byte {
	out := frames(numbered(seq, l)...)
	return append(out, frames(api.Record{Kind: api.RecCommit, Seq: seq + uint64(len(l)), N: len(l), Size: len(out)})...)
}

// header and footer answer frames that only record makes.
func header(n int, seq uint64) []byte {
	return frames(api.Record{Kind: api.RecHeader, Seq: seq, N: n})
}

func footer(n, where int, seq uint64) []byte {
	return frames(api.Record{Kind: api.RecFooter, Seq: seq, N: n, Size: where})
}

// draft is a segment that a test puts together: its number, its bytes, and what is to be found up to the end of its header, of each batch, and of its footer.
type draft struct {
	n     int
	b     []byte
	found []api.Scan
}

// begun answers the draft of a header alone.
func begun(n int, seq uint64) draft {
	return draft{n, header(n, seq), []api.Scan{{Seq: seq, End: headSize, At: headSize}}}
}

// all answers what is to be found in all of d.
func (d draft) all() api.Scan { return d.found[len(d.found)-1] }

// next answers the number behind the last one of d.
func (d draft) next() uint64 { return d.all().Seq + 1 }

// grown answers d with bytes behind it, in all of which s is to be found.
func (d draft) grown(b []byte, s api.Scan) draft {
	d.b = slices.Concat(d.b, b)
	s.End, s.At = len(d.b), len(d.b)
	d.found = append(slices.Clone(d.found), s)
	return d
}

// from answers d with a batch of the records of l behind it, that has the numbers from seq on.
func (d draft) from(seq uint64, l ...api.Record) draft {
	s := d.all()
	s.Words = slices.Clone(s.Words)
	at := s.End
	for _, r := range numbered(seq, l) {
		size := len(frames(r))
		s.Words = append(s.Words, api.Word{Kind: r.Kind, Seq: r.Seq, Digest: r.Digest, Name: r.Name, Size: len(r.Data), Loc: api.Loc{Seg: d.n, Off: at, Len: size}})
		at += size
	}
	s.Seq = seq + uint64(len(l))
	return d.grown(batchOf(seq, l...), s)
}

// with answers d with a batch behind it, the numbers of which follow those of d.
func (d draft) with(l ...api.Record) draft { return d.from(d.next(), l...) }

// sealedBy answers d with its footer, which has the number seq.
func (d draft) sealedBy(seq uint64) draft {
	s := d.all()
	foot := footer(len(s.Words), s.End, seq)
	s.Seq, s.Sealed = seq, true
	return d.grown(foot, s)
}

func (d draft) sealed() draft { return d.sealedBy(d.next()) }

// upTo answers what is to be found in front of index at of d.
func (d draft) upTo(at int) api.Scan {
	var out api.Scan
	for _, s := range d.found {
		if s.End <= at {
			out = s
		}
	}
	return out
}

// drafts answers segments of all sorts, none of which is sealed.
func drafts() []draft {
	out := []draft{begun(7, 10)}
	for _, kind := range members {
		out = append(out, begun(7, 10).with(member(kind, 3)), begun(1, 0).with(mixed(kind, kind)...).with(member(kind, 1)))
	}
	out = append(out,
		begun(7, 10).with(mixed(4, 5)...).with(mixed(4)...),
		begun(api.MaxNumber, 1<<63-2).from(1<<63, mixed(3, 1, 4)...).from(1<<63+9, mixed(2)...).with(mixed(5, 5, 1)...),
		begun(2, 3).with(rows(9)...),
	)
	many := begun(12, 100)
	for size := 1; size <= 5; size++ {
		many = many.with(rows(size)...).with(rows(1)...)
	}
	return append(out, many)
}

// scanOf answers what the chapter says of Scan, one rule after the other.
func scanOf(b []byte, n int) api.Scan {
	head, end, err := record.Parse(b, 0)
	if err != api.OK {
		return api.Scan{Err: err}
	}
	if head.Kind != api.RecHeader || head.N != n {
		return api.Scan{Err: api.ErrForm}
	}
	out := api.Scan{Seq: head.Seq, End: end, At: end}
	for out.End != len(b) {
		first, end, err := record.Parse(b, out.End)
		if err == api.OK && first.Kind == api.RecFooter {
			if first.Seq <= out.Seq || first.N != len(out.Words) || first.Size != out.End || end != len(b) {
				out.Err = api.ErrForm
				return out
			}
			out.Seq, out.End, out.At, out.Sealed = first.Seq, end, end, true
			return out
		}
		words, end, seq, err := batch.Parse(b, out.End, n)
		if err == api.OK && first.Seq <= out.Seq {
			err = api.ErrForm
		}
		if err != api.OK {
			out.Err = err
			return out
		}
		out.Words = append(out.Words, words...)
		out.Seq, out.End, out.At = seq, end, end
	}
	return out
}

// isSame tells whether two scans found the same.
func isSame(s, u api.Scan) bool {
	return slices.Equal(s.Words, u.Words) && s.Seq == u.Seq && s.End == u.End && s.Sealed == u.Sealed && s.At == u.At && s.Err == u.Err
}

// told answers what a scan found, and the last of its words.
func told(s api.Scan) string {
	out := strconv.Itoa(len(s.Words)) + " words, Seq " + strconv.FormatUint(s.Seq, 10) + ", End " + strconv.Itoa(s.End) + ", Sealed " + strconv.FormatBool(s.Sealed) + ", At " + strconv.Itoa(s.At) + ", " + s.Err.Error()
	if len(s.Words) > 0 {
		l := s.Words[len(s.Words)-1]
		out += ", last: kind " + strconv.Itoa(l.Kind) + " Seq " + strconv.FormatUint(l.Seq, 10) + " name " + l.Name + " size " + strconv.Itoa(l.Size) + " at " + strconv.Itoa(l.Loc.Seg) + " " + strconv.Itoa(l.Loc.Off) + " " + strconv.Itoa(l.Loc.Len)
	}
	return out
}

// scanned answers what Scan does, held against the words of the chapter, and sees that b and the memory behind it stay as they were.
func scanned(t *testing.T, b []byte, n int) api.Scan {
	t.Helper()
	room := append(slices.Clone(b), 1, 2, 3)
	got, want := Scan(room[:len(b)], n), scanOf(b, n)
	if !isSame(got, want) {
		t.Errorf("Scan(%d bytes, %d): %s, want %s", len(b), n, told(got), told(want))
	}
	if !bytes.Equal(room[:len(b)], b) || !bytes.Equal(room[len(b):], []byte{1, 2, 3}) {
		t.Errorf("Scan(%d bytes, %d) changed the bytes, or what is behind them", len(b), n)
	}
	return got
}

// checkScan sees that Scan answers what is wanted, and that all of this is found in the bytes up to its End.
func checkScan(t *testing.T, b []byte, n int, want api.Scan) {
	t.Helper()
	got := scanned(t, b, n)
	if !isSame(got, want) {
		t.Errorf("Scan(%d bytes, %d): %s, want %s", len(b), n, told(got), told(want))
	}
	if got.End == 0 {
		return
	}
	again := Scan(b[:got.End], n)
	got.Err = api.OK
	if !isSame(again, got) {
		t.Errorf("Scan(%d of %d bytes, %d): %s, want %s", got.End, len(b), n, told(again), told(got))
	}
}

// checkDraft sees that all of d is found.
func checkDraft(t *testing.T, d draft) {
	t.Helper()
	checkScan(t, d.b, d.n, d.all())
}

// checkBehind sees that all of d is found, and that what is behind it is wrong.
func checkBehind(t *testing.T, d draft, behind []byte, err api.Errno) {
	t.Helper()
	want := d.all()
	want.Err = err
	checkScan(t, slices.Concat(d.b, behind), d.n, want)
}

// checkRefused sees that nothing is found.
func checkRefused(t *testing.T, b []byte, n int, err api.Errno) {
	t.Helper()
	checkScan(t, b, n, api.Scan{Err: err})
}

// broken answers frames with any number that record.Parse refuses, by its error; none of them is as short as ErrShort has it.
func broken(seq uint64) map[api.Errno][][]byte {
	sound := frames(api.Record{Kind: api.RecDelete, Seq: seq, Digest: sample})
	foot := footer(0, headSize, seq)
	return map[api.Errno][][]byte{
		api.ErrSum:   {changed(sound, 0), changed(sound, 5), changed(sound, 13), changed(sound, 52), changed(foot, 0), changed(foot, 17), changed(foot, 28), make([]byte, 60)},
		api.ErrForm:  {frame.Make(1, seq, []byte("short")), frame.Make(9, seq, nil), frame.Make(0, seq, nil), frame.Make(6, seq, make([]byte, 7)), frame.Make(8, seq, make([]byte, 7)), frame.Make(8, seq, make([]byte, 9)), frame.Make(7, seq, []byte("stillagf\x01\x00\x00\x00\x00\x00\x00\x00"))},
		api.ErrName:  {frame.Make(4, seq, []byte("\x02V1")), frame.Make(4, seq, []byte{0}), frame.Make(3, seq, slices.Concat([]byte("\x02V1"), sample[:]))},
		api.ErrRange: {frame.Make(7, seq, []byte("stillage\x00\x00\x00\x00\x00\x00\x00\x00")), frame.Make(7, seq, []byte("stillage\xff\xff\xff\xff\xff\xff\xff\xff"))},
	}
}

// changed answers b with another byte at index i.
func changed(b []byte, i int) []byte {
	out := slices.Clone(b)
	out[i] ^= 64
	return out
}

// spoil changes each byte of b, and of the memory behind it that belongs to it.
func spoil(b []byte) {
	b = b[:cap(b)]
	for i := range b {
		b[i] ^= 0x5a
	}
}
