package batch

import (
	"bytes"
	"encoding/hex"
	"math"
	"math/rand/v2"
	"slices"
	"strings"
	"testing"

	"stillage/api"
	"stillage/frame"
	"stillage/record"
)

// digits are those of sample.
const digits = "0102030405060708090a0b0c0d0e0f101112131415161718191a1b1c1d1e1f20"

// written are batches that were computed by another program, frame by frame: the head without its checksum, this, the data, and the last checksum.
var written = []struct {
	l    []api.Record
	seq  uint64
	want []string
}{
	{[]api.Record{{Kind: 5, Digest: sample}}, 7, []string{
		"05070000000000000020000000 0e44b10e " + digits + " 46dbfdfe",
		"06080000000000000008000000 2d809166 01000000 35000000 87f67afa",
	}},
	{[]api.Record{{Kind: 3, Name: "v1", Digest: sample}, {Kind: 1, Digest: sample, Data: []byte("xyz")}, {Kind: 4, Name: "v0"}}, 10, []string{
		"030a0000000000000023000000 e80fabb4 027631 " + digits + " 785e0f01",
		"010b0000000000000023000000 12ab7ee4 " + digits + " 78797a 4e9b53ed",
		"040c0000000000000003000000 f84a9456 027630 64f42412",
		"060d0000000000000008000000 dd042792 03000000 88000000 ed98c054",
	}},
	{[]api.Record{{Kind: 2, Digest: sample}, {Kind: 5, Digest: sample}, {Kind: 4, Name: "a"}, {Kind: 1, Digest: sample}, {Kind: 3, Name: "a", Digest: sample}}, greatest - 6, []string{
		"02f9ffffffffffffff20000000 d23eb60a " + digits + " 46dbfdfe",
		"05faffffffffffffff20000000 b9eb1acb " + digits + " 46dbfdfe",
		"04fbffffffffffffff02000000 e630fba2 0161 9cf425d7",
		"01fcffffffffffffff20000000 8df276af " + digits + " 46dbfdfe",
		"03fdffffffffffffff22000000 f675c440 0161 " + digits + " b79fa961",
		"06feffffffffffffff08000000 bb84ca7e 05000000 ed000000 e930413d",
	}},
}

// P15.1, P15.2: batches that were computed elsewhere are made and read.
func TestWritten(t *testing.T) {
	for _, c := range written {
		want, err := hex.DecodeString(strings.ReplaceAll(strings.Join(c.want, ""), " ", ""))
		if err != nil {
			t.Fatal(err)
		}
		commit := c.seq + uint64(len(c.l))
		if got, next, err := Make(c.l, c.seq); err != api.OK || next != commit+1 || !bytes.Equal(got, want) {
			t.Errorf("Make(%s, %d): % x, %d, %v, want % x", told(c.l), c.seq, got, next, err, want)
		}
		if got := Size(c.l); got != len(want) {
			t.Errorf("Size(%s): %d, want %d", told(c.l), got, len(want))
		}
		checkFound(t, want, 0, 9, found{wordsOf(c.l, c.seq, 0, 9), len(want), commit, api.OK})
		checkMake(t, c.l, c.seq)
	}
}

// P15.1, P15.2: what the chapter's examples say.
func TestExamples(t *testing.T) {
	tag := api.Record{Kind: api.RecTag, Name: "v1", Digest: sample}
	blob := api.Record{Kind: api.RecBlob, Digest: sample, Data: []byte("xyz")}
	untag := api.Record{Kind: api.RecUntag, Name: "v0"}
	l := []api.Record{tag, blob, untag}
	b, next, err := Make(l, 10)
	if err != api.OK || next != 14 || len(b) != 56+56+24+29 || Size(l) != len(b) {
		t.Fatalf("%d bytes, %d, %v, Size %d", len(b), next, err, Size(l))
	}
	checkFails(t, l, greatest-3, api.ErrRange)
	if b, next, err := Make(l, greatest-4); err != api.OK || next != greatest || len(b) != 165 {
		t.Errorf("%d bytes, %d, %v", len(b), next, err)
	}
	checkFails(t, []api.Record{{Kind: api.RecTag}, {Kind: 9}}, 10, api.ErrArg)
	checkFails(t, []api.Record{{Kind: api.RecTag}}, 10, api.ErrName)
	if size := Size([]api.Record{{Kind: api.RecDelete}}); size != 82 {
		t.Errorf("a batch of one delete: %d", size)
	}
	words, end, seq, err := Parse(append([]byte{0}, b...), 1, 4)
	if err != api.OK || end != 166 || seq != 13 || len(words) != 3 {
		t.Fatalf("%+v, %d, %d, %v", words, end, seq, err)
	}
	if words[1] != (api.Word{Kind: api.RecBlob, Seq: 11, Digest: sample, Size: 3, Loc: api.Loc{Seg: 4, Off: 57, Len: 56}}) {
		t.Errorf("%+v", words[1])
	}
	checkRefused(t, b[:len(b)-1], 0, api.ErrShort)
	checkRefused(t, b[56:], 0, api.ErrForm)
	checkRefused(t, frames(api.Record{Kind: api.RecCommit, Seq: 3}), 0, api.ErrForm)
}

// P15.1, P15.2: batches of up to four records of the five kinds, in any order.
func TestMixtures(t *testing.T) {
	for _, a := range members {
		checkMake(t, mixed(a), 10)
		for _, b := range members {
			checkMake(t, mixed(a, b), 10)
			for _, c := range members {
				checkMake(t, mixed(a, b, c), 10)
				for _, d := range members {
					checkMake(t, mixed(a, b, c, d), 10)
				}
			}
		}
	}
}

// P15.1, P15.2: any number of records, also more than the batches of a log have.
func TestMany(t *testing.T) {
	for size := 1; size <= 70; size++ {
		checkMake(t, rows(size), uint64(size))
		for _, kind := range members {
			checkMake(t, slices.Repeat(mixed(kind), size), 0)
		}
	}
	for _, size := range []int{127, 128, 255, 256, 257, 1000, 70000} {
		checkMake(t, rows(size), 1<<40)
	}
}

// P15.1: a batch has one record at least, whatever the number is.
func TestNoRecords(t *testing.T) {
	for _, l := range [][]api.Record{nil, {}, rows(3)[:0]} {
		for _, seq := range []uint64{0, 1, 10, 1 << 63, greatest - 2, greatest - 1, greatest} {
			checkFails(t, l, seq, api.ErrArg)
			checkMake(t, l, seq)
		}
	}
}

// P15.1: kinds other than the five are ErrArg, wherever they stand and whatever else is wrong.
func TestKinds(t *testing.T) {
	for _, kind := range others {
		for _, r := range []api.Record{{Kind: kind}, member(kind, 3), worst(kind), {Kind: kind, N: 1, Size: 53}} {
			for _, size := range []int{1, 2, 3, 8} {
				for at := range size {
					l := rows(size)
					l[at] = r
					checkFails(t, l, 10, api.ErrArg)
					checkFails(t, l, greatest, api.ErrArg)
					checkMake(t, l, 10)
				}
			}
			checkFails(t, []api.Record{r, r}, 10, api.ErrArg)
		}
	}
	for kind := -300; kind <= 300; kind++ {
		checkMake(t, mixed(kind), 10)
		checkMake(t, mixed(kind, 5), 10)
		checkMake(t, mixed(5, kind), 10)
	}
}

// P15.1: a record that is not right is told by its error, wherever it stands; whatever number there is.
func TestWrongRecords(t *testing.T) {
	for _, kind := range members {
		all, want := wrongs(kind)
		for _, r := range all {
			for _, size := range []int{1, 2, 3, 8} {
				for at := range size {
					l := rows(size)
					l[at] = r
					for _, seq := range []uint64{0, 10, greatest - uint64(size) - 1, greatest - uint64(size), greatest} {
						checkFails(t, l, seq, want)
						checkMake(t, l, seq)
					}
				}
			}
		}
	}
}

// P15.1: a wrong kind counts ahead of a wrong record, whichever of them is the first.
func TestKindsAheadOfRecords(t *testing.T) {
	for _, kind := range members {
		all, _ := wrongs(kind)
		for _, r := range all {
			for _, other := range others {
				no := member(other, 1)
				for _, l := range [][]api.Record{{r, no}, {no, r}, {r, member(5, 1), no}, {no, member(1, 1), r}, {member(3, 1), r, no, member(4, 1)}, {member(2, 1), no, r}, {r, no, r}} {
					checkFails(t, l, 10, api.ErrArg)
					checkFails(t, l, greatest, api.ErrArg)
				}
			}
		}
	}
}

// P15.1: of two wrong records the first one counts.
func TestFirstWrongRecord(t *testing.T) {
	for _, a := range members {
		for _, b := range members {
			first, want := wrongs(a)
			second, _ := wrongs(b)
			for _, r := range first {
				for _, s := range second {
					for _, l := range [][]api.Record{{r, s}, {member(5, 1), r, s}, {r, member(5, 1), s}, {r, s, member(1, 1)}} {
						checkFails(t, l, 10, want)
						checkFails(t, l, greatest-1, want)
					}
				}
			}
		}
	}
}

// P15.1: sequence numbers up to the greatest one, which the next number may be; Size asks for none.
func TestSeqs(t *testing.T) {
	for _, size := range []int{1, 2, 3, 5, 64, 300} {
		l := rows(size)
		for _, seq := range []uint64{0, 1, 2, 255, 256, 1<<31 - 1, 1 << 32, 1<<40 + 5, 0x0102030405060708, 1<<63 - 2, 1<<63 - 1, 1 << 63, greatest - 1<<32} {
			checkMake(t, l, seq)
			if b, next, err := Make(l, seq); err != api.OK || next != seq+uint64(size)+1 || len(b) != Size(l) {
				t.Errorf("%d records from %d on: %d bytes, %d, %v", size, seq, len(b), next, err)
			}
		}
		last := greatest - uint64(size) - 1 // the last number that fits
		for back := range uint64(5) {
			checkMake(t, l, last-back)
			if _, next, err := Make(l, last-back); err != api.OK || next != greatest-back {
				t.Errorf("%d records from %d on: %d, %v", size, last-back, next, err)
			}
		}
		for ahead := uint64(1); ahead <= uint64(size)+1; ahead++ {
			checkFails(t, l, last+ahead, api.ErrRange)
			checkMake(t, l, last+ahead)
		}
	}
	// The last record, the commit and the next number are at 2^64 - 2, at 2^64 - 1 and at 2^64.
	for _, l := range [][]api.Record{mixed(1), mixed(4, 5), mixed(3, 2, 5)} {
		for ahead := -3; ahead <= 1 && ahead < len(l); ahead++ {
			seq := uint64(ahead - len(l)) // the commit would have 2^64 + ahead
			want := api.ErrRange
			if ahead <= -2 {
				want = api.OK
			}
			if _, _, err := Make(l, seq); err != want {
				t.Errorf("%s from %d on: %v, want %v", told(l), seq, err, want)
			}
			checkMake(t, l, seq)
		}
	}
}

// P15.1: the numbers that the records have count for nothing.
func TestOwnSeqs(t *testing.T) {
	for _, own := range []uint64{0, 1, 9, 10, 11, 77, 1 << 63, greatest - 1, greatest} {
		l := rows(5)
		for i := range l {
			l[i].Seq = own
		}
		checkMake(t, l, 10)
		got, next, err := Make(l, 10)
		want, _, _ := Make(rows(5), 10)
		if err != api.OK || next != 16 || !bytes.Equal(got, want) || Size(l) != len(want) {
			t.Errorf("number %d: %d bytes, %d, %v", own, len(got), next, err)
		}
	}
}

// P15.1: Data of any size that a record may have.
func TestData(t *testing.T) {
	for _, data := range [][]byte{nil, {}, {0}, []byte("xyz"), pattern(255), pattern(256), pattern(1000), pattern(api.MaxSeg - 33), pattern(api.MaxSeg - 32)} {
		for _, kind := range []int{api.RecBlob, api.RecManifest} {
			r := api.Record{Kind: kind, Digest: sample, Data: data}
			for _, l := range [][]api.Record{{r}, {r, member(5, 1)}, {member(5, 1), r}, {r, r}, {member(1, 4), r, member(3, 2)}} {
				checkMake(t, l, 10)
				if _, _, err := Make(l, 10); err != api.OK {
					t.Errorf("%s with %d bytes of Data: %v", told(l), len(data), err)
				}
			}
			r.Data = append(pattern(api.MaxSeg-32), 0)
			checkFails(t, []api.Record{r}, 10, api.ErrLarge)
			checkFails(t, []api.Record{member(5, 1), r}, 10, api.ErrLarge)
		}
	}
	// A batch may be longer than a segment.
	checkMake(t, slices.Repeat([]api.Record{{Kind: api.RecBlob, Data: pattern(api.MaxSeg - 32)}}, 40), 10)
}

// P15.1: names that tags may have.
func TestNames(t *testing.T) {
	for _, kind := range []int{api.RecTag, api.RecUntag} {
		for _, name := range []string{"a", "0", "v1.0_x-y", strings.Repeat("z", 32)} {
			r := api.Record{Kind: kind, Digest: sample, Name: name}
			checkMake(t, []api.Record{r, member(5, 1), r}, 10)
		}
		for _, name := range []string{"", "V1", ".a", "a b", "a\x00", "é", strings.Repeat("z", 33), strings.Repeat("z", 256)} {
			r := api.Record{Kind: kind, Digest: sample, Name: name}
			checkFails(t, []api.Record{member(5, 1), r}, 10, api.ErrName)
		}
	}
}

// P15.1: fields that a kind has not are ignored, also where they would be wrong in another kind.
func TestOtherFields(t *testing.T) {
	bad := worst(0)
	for _, kind := range members {
		bare := api.Record{Kind: kind}
		full := bad
		full.Kind = kind
		if kind == api.RecBlob || kind == api.RecManifest {
			bare.Data, full.Data = pattern(3), pattern(3)
		}
		if kind == api.RecTag || kind == api.RecUntag {
			bare.Name, full.Name = "v1", "v1"
		}
		if kind != api.RecUntag {
			bare.Digest = bad.Digest
		}
		want, _, _ := Make([]api.Record{bare, bare}, 10)
		got, next, err := Make([]api.Record{full, full}, 10)
		if err != api.OK || next != 13 || !bytes.Equal(got, want) || Size([]api.Record{full, full}) != len(want) {
			t.Errorf("kind %d: %d bytes, %d, %v, want %d bytes", kind, len(got), next, err, len(want))
		}
		checkMake(t, []api.Record{full}, 10)
	}
}

// P15.1: Size is that of a batch that numbers alone forbid, and 0 where the records do.
func TestSize(t *testing.T) {
	for size := 1; size <= 20; size++ {
		l := rows(size)
		b, _, _ := Make(l, 0)
		for _, seq := range []uint64{greatest, greatest - uint64(size)} {
			if _, _, err := Make(l, seq); err != api.ErrRange || Size(l) != len(b) {
				t.Errorf("%d records from %d on: %v, Size %d, want %d", size, seq, err, Size(l), len(b))
			}
		}
		l[size/2].Kind = 6
		if got := Size(l); got != 0 {
			t.Errorf("%d records, one of them a commit: %d", size, got)
		}
		l[size/2] = api.Record{Kind: 3, Name: "V1"}
		if got := Size(l); got != 0 {
			t.Errorf("%d records, one of them with a wrong name: %d", size, got)
		}
	}
}

// P15.1, R1: more bytes than a commit can count are refused ahead of being made; a batch as long as that is beyond what the document promises.
func TestMoreThanACommitCounts(t *testing.T) {
	data := make([]byte, api.MaxSeg-32)
	l := slices.Repeat([]api.Record{{Kind: api.RecBlob, Data: data}}, 65515)
	l = append(l, api.Record{Kind: api.RecBlob, Data: data[:387]})
	if got := Size(l); got != 1<<32-1+29 {
		t.Errorf("Size: %d", got)
	}
	l[0], l[65515] = l[65515], api.Record{Kind: api.RecBlob, Data: data}
	l[0].Data = data[:388]
	if got := Size(l); got != 0 {
		t.Errorf("Size with one byte more: %d", got)
	}
	if b, next, err := Make(l, 5); err != api.ErrRange || next != 5 || len(b) != 0 {
		t.Errorf("Make with one byte more: %d bytes, %d, %v", len(b), next, err)
	}
}

// P15.2: indexes at the edges of b and outside of it, and in the midst of a batch.
func TestIndexes(t *testing.T) {
	for _, l := range [][]api.Record{mixed(5), mixed(3, 1, 4), rows(7)} {
		b, _, _ := Make(l, 10)
		n := len(b)
		for _, at := range []int{-1, -2, -n, n + 1, n + 2, n + 29, math.MinInt, math.MinInt + 1, math.MinInt32, math.MaxInt32, math.MaxInt, math.MaxInt - 1, math.MaxInt - 21} {
			checkRefused(t, b, at, api.ErrArg)
			checkRefused(t, append(slices.Clone(b), b...)[:n], at, api.ErrArg)
		}
		checkRefused(t, b, n-1, api.ErrShort)
		checkRefused(t, b, n, api.ErrShort)
		for at := -2; at <= n+2; at++ {
			if err := checkParse(t, b, at, 1); at != 0 && err == api.OK {
				t.Errorf("%s: there is a batch at %d", told(l), at)
			}
		}
	}
	for _, b := range [][]byte{nil, {}} {
		checkRefused(t, b, 0, api.ErrShort)
		for _, at := range []int{-1, 1, 2, math.MinInt, math.MaxInt} {
			checkRefused(t, b, at, api.ErrArg)
		}
	}
}

// P15.2, P15.3: a batch with any bytes ahead of it and behind it.
func TestBetweenOthers(t *testing.T) {
	for _, l := range [][]api.Record{mixed(5), mixed(3, 1, 4), rows(7)} {
		b, _, _ := Make(l, 10)
		other, _, _ := Make(mixed(1, 4), 14)
		header := frames(api.Record{Kind: api.RecHeader, Seq: 9, N: 1})
		for _, ahead := range [][]byte{nil, {0}, {9, 9}, b[:20], b, header, other, pattern(1000)} {
			for _, behind := range [][]byte{nil, {0}, {6}, b[1:], b, other, frames(commitFor(l)), make([]byte, 70), pattern(1000)} {
				at := len(ahead)
				want := found{wordsOf(l, 10, at, 7), at + len(b), 10 + uint64(len(l)), api.OK}
				checkFound(t, slices.Concat(ahead, b, behind), at, 7, want)
			}
		}
	}
}

// P15.2: batches one behind the other are read one after the other.
func TestRows(t *testing.T) {
	for _, seq := range []uint64{10, 1, greatest - 17} {
		var b []byte
		next := seq
		for _, size := range []int{1, 2, 3, 1, 5} {
			more, after, err := Make(rows(size), next)
			if err != api.OK {
				t.Fatal(err)
			}
			b, next = append(b, more...), after
		}
		at, number := 0, seq
		for _, size := range []int{1, 2, 3, 1, 5} {
			l := rows(size)
			want := found{wordsOf(l, number, at, 2), at + Size(l), number + uint64(size), api.OK}
			checkFound(t, b, at, 2, want)
			at, number = want.end, want.seq+1
		}
		checkRefused(t, b, at, api.ErrShort)
	}
}

// P15.2: any segment stands in the places of the words.
func TestSegments(t *testing.T) {
	b, _, _ := Make(rows(6), 10)
	for _, seg := range []int{0, 1, 4, -1, api.MaxNumber, api.MaxNumber + 1, math.MinInt, math.MaxInt, 1 << 32, -1 << 31} {
		checkFound(t, b, 0, seg, found{wordsOf(rows(6), 10, 0, seg), len(b), 16, api.OK})
		if got := parsed(b, 1, seg); !got.is(found{err: api.ErrSum}) {
			t.Errorf("segment %d: %+v", seg, got)
		}
	}
}

// P15.2, P15.3: no proper prefix is a batch, wherever it is cut.
func TestCut(t *testing.T) {
	for _, l := range [][]api.Record{mixed(1), mixed(4), mixed(5), mixed(3, 1, 4), mixed(5, 5), rows(9)} {
		b, _, _ := Make(l, 10)
		for size := range b {
			checkRefused(t, b[:size], 0, api.ErrShort)
			checkRefused(t, slices.Concat([]byte{1, 2}, b[:size]), 2, api.ErrShort)
		}
	}
}

// P15.2: a batch without one of its frames, or with one of them twice or at another place.
func TestFramesAtOtherPlaces(t *testing.T) {
	l := numbered(rows(6), 10)
	all := append(slices.Clone(l), commitFor(l))
	for i := range all {
		less := slices.Delete(slices.Clone(all), i, i+1)
		want := api.ErrForm
		if i == len(l) {
			want = api.ErrShort
		}
		checkRefused(t, frames(less...), 0, want)
		for j := range all {
			if i != j || i < len(l) {
				checkRefused(t, frames(slices.Insert(slices.Clone(less), j, all[i], all[i])...), 0, api.ErrForm)
			}
			if i != j {
				checkRefused(t, frames(slices.Insert(slices.Clone(less), j, all[i])...), 0, api.ErrForm)
			}
		}
	}
	checkFound(t, frames(all...), 0, 1, found{wordsOf(l, 10, 0, 1), lengthsOf(all), 16, api.OK})
}

// P15.2: without its first frames what is left of a batch is none, also with right numbers.
func TestWithoutFirstFrames(t *testing.T) {
	b, _, _ := Make(rows(6), 10)
	at := 0
	for _, r := range rows(6) {
		at += lengthOf(r)
		checkRefused(t, b[at:], 0, api.ErrForm)
		checkRefused(t, b, at, api.ErrForm)
	}
}

// P15.2: a commit ahead of any record is ErrForm, whatever it says and whatever follows.
func TestCommitFirst(t *testing.T) {
	batch, _, _ := Make(rows(2), 4)
	for _, n := range []int{0, 1, 2, 1<<32 - 1} {
		for _, size := range []int{0, 1, 29, 53, 1<<32 - 1} {
			commit := frames(api.Record{Kind: api.RecCommit, Seq: 3, N: n, Size: size})
			for _, behind := range [][]byte{nil, {0}, batch, commit} {
				checkRefused(t, slices.Concat(commit, behind), 0, api.ErrForm)
				checkRefused(t, slices.Concat(commit, commit, behind), len(commit), api.ErrForm)
			}
		}
	}
}

// P15.2: the first commit ends the batch, right or wrong; what stands behind it is not read.
func TestCommitInTheMiddle(t *testing.T) {
	l := numbered(rows(6), 10)
	for i := 1; i < len(l); i++ {
		rest := numbered(l[i:], uint64(10+i+1))
		right := commitFor(l[:i])
		want := found{wordsOf(l[:i], 10, 0, 3), lengthsOf(l[:i]) + 29, uint64(10 + i), api.OK}
		b := frames(slices.Concat(l[:i], []api.Record{right}, rest)...)
		checkFound(t, b, 0, 3, want)
		checkFound(t, append(b, 1, 2, 3), 0, 3, want)
		checkFound(t, slices.Concat(frames(append(slices.Clone(l[:i]), right)...), pattern(50)), 0, 3, want)
		checkFound(t, frames(append(slices.Clone(l[:i]), right, right)...), 0, 3, want)
		early := commitFor(l)
		early.Seq = right.Seq
		checkRefused(t, frames(slices.Concat(l[:i], []api.Record{early}, rest)...), 0, api.ErrForm)
	}
}

// P15.2: the N and the Size of a commit are those of the frames ahead of it, and nothing else.
func TestWrongCommits(t *testing.T) {
	for _, l := range [][]api.Record{mixed(5), mixed(4), mixed(3, 1, 4), rows(29), rows(64)} {
		l = numbered(l, 10)
		right := commitFor(l)
		n, size := right.N, right.Size
		for _, c := range [][2]int{{n - 1, size}, {n + 1, size}, {0, size}, {1<<32 - 1, size}, {n, size - 1}, {n, size + 1}, {n, 0}, {n, 1<<32 - 1}, {n - 1, size - 1}, {n + 1, size + 1}, {0, 0}, {1<<32 - 1, 1<<32 - 1}, {size, n}, {n, size + 29}, {n + 1, size + 29}, {n, max(0, size-53)}, {n | 1<<31, size}, {n, size | 1<<31}, {n + 256, size}, {n, size + 65536}} {
			wrong := right
			wrong.N, wrong.Size = c[0], c[1]
			b := frames(append(slices.Clone(l), wrong)...)
			checkRefused(t, b, 0, api.ErrForm)
			checkRefused(t, slices.Concat(pattern(size), b), size, api.ErrForm)
		}
		checkFound(t, frames(append(slices.Clone(l), right)...), 0, 1, found{wordsOf(l, 10, 0, 1), size + 29, right.Seq, api.OK})
	}
	// Size counts from where the batch begins, not from where b does.
	l := numbered(mixed(3, 1), 10)
	wrong := commitFor(l)
	wrong.Size += 50
	checkRefused(t, slices.Concat(pattern(50), frames(append(slices.Clone(l), wrong)...)), 50, api.ErrForm)
}

// P15.2: headers and footers are ErrForm wherever they stand.
func TestHeadersAndFooters(t *testing.T) {
	for _, no := range []api.Record{{Kind: api.RecHeader, N: 3}, {Kind: api.RecFooter, N: 3, Size: 99}, {Kind: api.RecFooter}} {
		for size := 1; size <= 4; size++ {
			for at := range size + 1 {
				l := slices.Insert(rows(size), at, no)
				b := whole(numbered(l, 10))
				checkRefused(t, b, 0, api.ErrForm)
				l = numbered(rows(size), 10)
				footer := commitFor(l)
				footer.Kind = no.Kind
				checkRefused(t, frames(append(slices.Clone(l), footer)...), 0, api.ErrForm)
			}
		}
		no.Seq = 3
		checkRefused(t, frames(no), 0, api.ErrForm)
		checkRefused(t, append(frames(no), whole(numbered(rows(2), 4))...), 0, api.ErrForm)
	}
}

// P15.2: frames of another batch amidst those of one are ErrForm, also with numbers that follow.
func TestFramesOfOthers(t *testing.T) {
	l := numbered(rows(4), 10)
	one := append(slices.Clone(l), commitFor(l))
	m := numbered(mixed(5, 4, 1, 2), 50)
	other := append(slices.Clone(m), commitFor(m))
	for i := range one {
		for j := range other {
			checkRefused(t, frames(append(slices.Clone(one[:i]), other[j])...), 0, errorFor(i, j, other))
			for _, behind := range [][]api.Record{one[i:], other[j+1:], {other[j], one[len(l)]}} {
				b := frames(slices.Concat(one[:i], []api.Record{other[j]}, behind)...)
				if err := checkParse(t, b, 0, 1); i > 0 && err != api.ErrForm {
					t.Errorf("frame %d of another batch at %d: %v", j, i, err)
				}
			}
		}
	}
}

// errorFor answers the error for the first i frames of one batch and frame j of another one.
func errorFor(i, j int, other []api.Record) api.Errno {
	if i == 0 && j < len(other)-1 {
		return api.ErrShort
	}
	return api.ErrForm
}

// P15.2: numbers that repeat, fall or jump are ErrForm, between any two frames.
func TestNumbers(t *testing.T) {
	for _, first := range []uint64{0, 1, 10, 1<<32 - 2, 1<<63 - 2, greatest - 5} {
		for size := 1; size <= 4; size++ {
			l := numbered(rows(size), first)
			all := append(slices.Clone(l), commitFor(l))
			for at := 1; at <= size; at++ {
				for _, by := range []uint64{1, 2, 3, 1 << 8, 1 << 32, 1 << 63, greatest, greatest - 1, greatest - 2} {
					only := slices.Clone(all)
					only[at].Seq += by
					checkRefused(t, frames(only...), 0, api.ErrForm)
					from := slices.Clone(all)
					for i := at; i < len(from); i++ {
						from[i].Seq += by
					}
					checkRefused(t, frames(from...), 0, api.ErrForm)
				}
			}
		}
	}
}

// P15.2: the greatest number is one of a frame like others, but none follows it, 0 neither.
func TestGreatestNumber(t *testing.T) {
	for size := 1; size <= 5; size++ {
		l := numbered(rows(size), greatest-uint64(size))
		b := whole(l)
		checkFound(t, b, 0, 1, found{wordsOf(l, greatest-uint64(size), 0, 1), len(b), greatest, api.OK})
		for last := range uint64(size) {
			checkRefused(t, whole(numbered(rows(size), greatest-last)), 0, api.ErrForm)
		}
		checkFound(t, whole(numbered(rows(size), 0)), 0, 1, found{wordsOf(l, 0, 0, 1), len(b), uint64(size), api.OK})
	}
}

// P15.2: each error of record.Parse in each frame, whatever number the frame has and whatever comes behind it.
func TestErrorsOfFrames(t *testing.T) {
	l := numbered(rows(4), 10)
	for at := range 5 {
		ahead := frames(l[:at]...)
		for _, seq := range []uint64{uint64(10 + at), 10, 77, 0, greatest} {
			for err, list := range broken(seq) {
				for _, f := range list {
					b := slices.Concat(ahead, f)
					checkRefused(t, b, 0, err)
					checkRefused(t, append(b, frames(l[min(at, 3):]...)...), 0, err)
					checkRefused(t, slices.Concat(pattern(9), b, pattern(60)), 9, err)
					checkRefused(t, slices.Concat(ahead, f[:16]), 0, api.ErrShort)
				}
			}
		}
	}
	// What record.Parse refuses in a frame that no batch may have counts ahead of that it may not.
	checkRefused(t, slices.Concat(frames(l...), frame.Make(8, 99, []byte("short"))), 0, api.ErrForm)
	checkRefused(t, slices.Concat(frames(l...), frame.Make(7, 99, []byte("stillage\x00\x00\x00\x00\x00\x00\x00\x00"))), 0, api.ErrRange)
	checkRefused(t, frame.Make(7, 99, []byte("stillage\x00\x00\x00\x00\x00\x00\x00\x00")), 0, api.ErrRange)
	checkRefused(t, frames(l[0], l[1])[:120], 0, api.ErrShort)
}

// P15.2: of two frames that are wrong the first one counts, whatever is wrong with either.
func TestFirstError(t *testing.T) {
	l := numbered(rows(4), 10)
	for at := range 4 {
		first := broken(uint64(10 + at))
		first[api.ErrForm] = append(first[api.ErrForm], frames(api.Record{Kind: api.RecHeader, Seq: uint64(10 + at), N: 1}), frames(api.Record{Kind: api.RecCommit, Seq: uint64(10 + at), N: at + 1}))
		if at > 0 {
			repeated := l[at-1]
			first[api.ErrForm] = append(first[api.ErrForm], frames(repeated))
		}
		for want, list := range first {
			for _, f := range list {
				for _, gap := range [][]byte{nil, frames(numbered(mixed(5), uint64(11+at))...)} {
					for _, others := range broken(uint64(11 + at)) {
						for _, g := range others {
							checkRefused(t, slices.Concat(frames(l[:at]...), f, gap, g), 0, want)
						}
					}
					checkRefused(t, slices.Concat(frames(l[:at]...), f, gap, []byte{5}), 0, want)
				}
			}
		}
	}
}

// P15.2: any one bit of a batch that is another one makes it none.
func TestBits(t *testing.T) {
	b, _, _ := Make(mixed(3, 1, 4), 10)
	for at := range b {
		for bit := range 8 {
			c := slices.Clone(b)
			c[at] ^= 1 << bit
			checkRefused(t, c, 0, api.ErrSum)
		}
	}
}

// P15.3: Parse of what Make answered tells the records in their order with their places, whatever stands ahead and behind; of no prefix it does.
func TestInverse(t *testing.T) {
	r := rand.New(rand.NewPCG(15, 3))
	for range 3000 {
		var l []api.Record
		for range 1 + r.IntN(10) {
			l = append(l, anything(r))
		}
		seq := anyNumber(r) % (greatest - 20)
		seg := int(anyNumber(r))
		b, next, err := Make(l, seq)
		if err != api.OK {
			t.Fatalf("Make(%s, %d): %v", told(l), seq, err)
		}
		ahead, behind := pattern(r.IntN(100)), pattern(r.IntN(100))
		at := len(ahead)
		all := slices.Concat(ahead, b, behind)
		checkFound(t, all, at, seg, found{wordsOf(l, seq, at, seg), at + len(b), next - 1, api.OK})
		checkMake(t, l, seq)
		checkRefused(t, all[:at+r.IntN(len(b))], at, api.ErrShort)
	}
}

// anyNumber answers any number, small ones as often as great ones.
func anyNumber(r *rand.Rand) uint64 { return r.Uint64() >> r.IntN(64) }

// anything answers a record of any of the five kinds that is right.
func anything(r *rand.Rand) api.Record {
	out := member(members[r.IntN(5)], r.IntN(300))
	out.Seq = anyNumber(r)
	out.Data = pattern(r.IntN(80))
	return out
}

// P15.1, P15.2: samples of records, and of frames that are nearly a batch, held against the words of the chapter.
func TestSamples(t *testing.T) {
	r := rand.New(rand.NewPCG(15, 2))
	made, read := map[api.Errno]int{}, map[api.Errno]int{}
	for range 20000 {
		l, seq := nearly(r)
		checkMake(t, l, seq)
		_, _, err := Make(l, seq)
		made[err]++
		b := slices.Concat(pattern(r.IntN(3)), nearlyWhole(r))
		at := r.IntN(4)
		if r.IntN(8) == 0 {
			at = r.IntN(len(b)+6) - 3
		}
		read[checkParse(t, b, at, r.IntN(9))]++
		for at := range 3 {
			read[checkParse(t, b, at, 1)]++
		}
	}
	for _, err := range []api.Errno{api.OK, api.ErrArg, api.ErrName, api.ErrLarge, api.ErrRange} {
		if made[err] < 50 {
			t.Errorf("Make: %v came up %d times only", err, made[err])
		}
	}
	for _, err := range []api.Errno{api.OK, api.ErrArg, api.ErrShort, api.ErrSum, api.ErrForm, api.ErrName, api.ErrRange} {
		if read[err] < 50 {
			t.Errorf("Parse: %v came up %d times only", err, read[err])
		}
	}
}

// nearly answers records that are mostly those of a batch, and a number.
func nearly(r *rand.Rand) ([]api.Record, uint64) {
	var l []api.Record
	for range r.IntN(6) {
		l = append(l, anything(r))
	}
	if len(l) > 0 && r.IntN(4) == 0 {
		l[r.IntN(len(l))].Kind = others[r.IntN(len(others))]
	}
	for len(l) > 0 && r.IntN(3) == 0 {
		if all, _ := wrongs(members[r.IntN(4)]); len(all) > 0 {
			l[r.IntN(len(l))] = all[r.IntN(len(all))]
		}
	}
	if r.IntN(3) == 0 {
		return l, greatest - uint64(r.IntN(9))
	}
	return l, anyNumber(r)
}

// nearlyWhole answers the frames of a batch, in which sometimes something is wrong.
func nearlyWhole(r *rand.Rand) []byte {
	var l []api.Record
	for range 1 + r.IntN(5) {
		l = append(l, anything(r))
	}
	l = numbered(l, anyNumber(r))
	l = append(l, commitFor(l))
	at := r.IntN(len(l))
	last := &l[len(l)-1]
	switch r.IntN(12) {
	case 0:
		l[at].Seq += uint64(r.IntN(5)) - 2
	case 1:
		last.N = max(0, last.N+r.IntN(3)-1)
	case 2:
		last.Size += r.IntN(3) - 1
	case 3:
		l = slices.Insert(l, at, api.Record{Kind: 6 + r.IntN(3), Seq: l[at].Seq, N: 1 + r.IntN(3), Size: r.IntN(200)})
	case 4:
		l = slices.Delete(l, at, at+1)
	case 5:
		list := broken(l[at].Seq)[[]api.Errno{api.ErrSum, api.ErrForm, api.ErrName, api.ErrRange}[r.IntN(4)]]
		return slices.Concat(frames(l[:at]...), list[r.IntN(len(list))], frames(l[at:]...))
	}
	b := frames(l...)
	if len(b) > 0 && r.IntN(8) == 0 {
		b = changed(b, r.IntN(len(b)))
	}
	if r.IntN(8) == 0 {
		b = b[:r.IntN(len(b)+1)]
	}
	return append(b, pattern(r.IntN(3))...)
}

// R3: what came in is as it was behind each call, with the memory behind it.
func TestArgumentsStay(t *testing.T) {
	for _, size := range []int{0, 1, 2, 5, 64} {
		for _, seq := range []uint64{0, 10, greatest - 1} {
			for _, bad := range []int{-1, 0, size / 2} {
				room, data := rows(size+4), pattern(300)
				for i := range room {
					room[i].Data = data[i : i+3]
				}
				if bad >= 0 {
					room[bad].Kind, room[bad].Name = 3+bad%2*6, "V1"
				}
				was := slices.Clone(room)
				b, _, _ := Make(room[:size], seq)
				Size(room[:size])
				spoil(b)
				same := func(r, s api.Record) bool {
					return r.Kind == s.Kind && r.Seq == s.Seq && r.Digest == s.Digest && r.Name == s.Name && &r.Data[0] == &s.Data[0] && len(r.Data) == len(s.Data) && r.N == s.N && r.Size == s.Size
				}
				if !slices.EqualFunc(room, was, same) || !bytes.Equal(data, pattern(300)) {
					t.Errorf("%d records from %d on were changed, or what is behind them", size, seq)
				}
			}
		}
	}
	b, _, _ := Make(rows(5), 10)
	room := slices.Concat(b, pattern(200))
	was := slices.Clone(room)
	for at := -1; at <= len(b)+1; at++ {
		words, _, _, _ := Parse(room[:len(b)], at, 1)
		clear(words)
		if !bytes.Equal(room, was) {
			t.Fatalf("Parse at %d changed the bytes, or what is behind them", at)
		}
	}
}

// R3: an answer is of its own: what is done to the argument behind the call does not change it, nor what is done to another answer.
func TestAnswersAreNew(t *testing.T) {
	for _, size := range []int{1, 2, 5} {
		l := rows(size)
		first, _, _ := Make(l, 10)
		want := slices.Clone(first)
		second, _, _ := Make(l, 10)
		spoil(second)
		for _, r := range l {
			spoil(r.Data)
		}
		clear(l)
		if !bytes.Equal(first, want) {
			t.Errorf("the batch of %d records was changed", size)
		}
		one, two := parsed(first, 0, 1), parsed(first, 0, 1)
		spoil(first)
		clear(two.words[:cap(two.words)])
		if !one.is(found{wordsOf(rows(size), 10, 0, 1), len(want), uint64(10 + size), api.OK}) {
			t.Errorf("the words of %d records were changed", size)
		}
	}
}

// R4: the answers do not hang on earlier calls.
func TestAnswersDoNotHangOnEarlierOnes(t *testing.T) {
	all := [][]api.Record{nil, mixed(5), mixed(3, 1, 4), mixed(6), mixed(1, 9), {{Kind: 3}}, rows(9)}
	for _, a := range all {
		for _, b := range all {
			for _, seq := range []uint64{0, 10, greatest - 3} {
				checkMake(t, a, seq)
				checkMake(t, b, seq)
				checkRefused(t, frames(member(5, 1), api.Record{Kind: api.RecCommit, Seq: 1000, N: 2, Size: 53}), 0, api.ErrForm)
				checkMake(t, a, seq)
			}
		}
	}
}

// R1: bytes that are none of a batch.
func TestNoBatches(t *testing.T) {
	for size := range 200 {
		for _, b := range [][]byte{make([]byte, size), pattern(size), bytes.Repeat([]byte{255}, size), bytes.Repeat([]byte("stillage"), size)} {
			for _, at := range []int{0, 1, size / 2, size} {
				if err := checkParse(t, b, at, 1); err == api.OK {
					t.Errorf("%d bytes at %d: a batch", size, at)
				}
			}
		}
	}
	footer, _ := record.Make(api.Record{Kind: api.RecFooter})
	checkRefused(t, footer, 0, api.ErrForm)
}
