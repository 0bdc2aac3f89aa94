package segment

import (
	"bytes"
	"encoding/hex"
	"math"
	"math/rand/v2"
	"slices"
	"strings"
	"testing"

	"stillage/api"
	"stillage/batch"
	"stillage/frame"
	"stillage/record"
)

// digits are those of sample.
const digits = "0102030405060708090a0b0c0d0e0f101112131415161718191a1b1c1d1e1f20"

// written are segments that were computed by another program, frame by frame: the head without its checksum, this, the data, and the last checksum.
var written = []struct {
	want draft
	b    []string
}{
	{begun(1, 1), []string{
		"07010000000000000010000000 d26970f6 7374696c6c6167650100000000000000 1a0d9c72",
	}},
	{begun(api.MaxNumber, 0).sealedBy(5), []string{
		"07000000000000000010000000 e2bd01c7 7374696c6c616765ffe0f50500000000 578d5244",
		"08050000000000000008000000 2bf7d43d 0000000025000000 9d3a225a",
	}},
	{begun(7, 10).with(api.Record{Kind: 4, Name: "a"}, api.Record{Kind: 5, Digest: sample}).with(api.Record{Kind: 4, Name: "b"}), []string{
		"070a0000000000000010000000 f3c2802b 7374696c6c6167650700000000000000 3975f9c1",
		"040b0000000000000002000000 d0cc841d 0161 9cf425d7",
		"050c0000000000000020000000 2fef41d3 " + digits + " 46dbfdfe",
		"060d0000000000000008000000 dd042792 020000004c000000 e142d89f",
		"040e0000000000000002000000 204832e9 0162 680775c4",
		"060f0000000000000008000000 bdacc4f0 0100000017000000 8dc13892",
	}},
	{begun(258, 1<<63-1).with(api.Record{Kind: 1, Digest: sample, Data: []byte("xyz")}).from(1<<63+7, api.Record{Kind: 2, Digest: sample}, api.Record{Kind: 3, Name: "v1", Digest: sample}).from(greatest-2, api.Record{Kind: 5, Digest: sample}).sealedBy(greatest), []string{
		"07ffffffffffffff7f10000000 696feb0e 7374696c6c6167650201000000000000 bba6dbc1",
		"01000000000000008023000000 6fd52c57 " + digits + "78797a 4e9b53ed",
		"06010000000000008008000000 305620b7 0100000038000000 2a0e59aa",
		"02070000000000008020000000 69382df2 " + digits + " 46dbfdfe",
		"03080000000000008023000000 d472eab8 027631" + digits + " 785e0f01",
		"06090000000000008008000000 41814239 020000006d000000 d2fcb895",
		"05fdffffffffffffff20000000 29c74f5d " + digits + " 46dbfdfe",
		"06feffffffffffffff08000000 bb84ca7e 0100000035000000 87f67afa",
		"08ffffffffffffffff08000000 0c742a6e 0400000056010000 e659bb29",
	}},
}

// P16.1, P16.2: segments that were computed elsewhere are made and found.
func TestWritten(t *testing.T) {
	for _, c := range written {
		b, err := hex.DecodeString(strings.ReplaceAll(strings.Join(c.b, ""), " ", ""))
		if err != nil {
			t.Fatal(err)
		}
		checkScan(t, b, c.want.n, c.want.all())
		if first := c.want.found[0]; !bytes.Equal(Head(c.want.n, first.Seq), b[:headSize]) {
			t.Errorf("Head(%d, %d): % x", c.want.n, first.Seq, Head(c.want.n, first.Seq))
		}
		if last := c.want.all(); last.Sealed {
			at := len(b) - footSize
			if foot := Foot(len(last.Words), at, last.Seq); !bytes.Equal(foot, b[at:]) {
				t.Errorf("Foot(%d, %d, %d): % x", len(last.Words), at, last.Seq, foot)
			}
		}
	}
}

// P16.2: what the chapter's examples say.
func TestExamples(t *testing.T) {
	b := Head(7, 10)
	if len(b) != 37 {
		t.Fatalf("a header of %d bytes", len(b))
	}
	checkScan(t, b, 7, api.Scan{Seq: 10, End: 37, At: 37})
	one, next, _ := batch.Make([]api.Record{{Kind: api.RecUntag, Name: "a"}, {Kind: api.RecDelete}}, 11)
	two, last, _ := batch.Make([]api.Record{{Kind: api.RecUntag, Name: "b"}}, next)
	b = slices.Concat(b, one, two)
	words := []api.Word{
		{Kind: api.RecUntag, Seq: 11, Name: "a", Loc: api.Loc{Seg: 7, Off: 37, Len: 24 - 1}},
		{Kind: api.RecDelete, Seq: 12, Loc: api.Loc{Seg: 7, Off: 60, Len: 53}},
		{Kind: api.RecUntag, Seq: 14, Name: "b", Loc: api.Loc{Seg: 7, Off: 142, Len: 23}},
	}
	whole := api.Scan{Words: words, Seq: 15, End: len(b), At: len(b)}
	checkScan(t, b, 7, whole)
	checkScan(t, b[:len(b)-3], 7, api.Scan{Words: words[:2], Seq: 13, End: 142, At: 142, Err: api.ErrShort})
	sealed := api.Scan{Words: words, Seq: 16, End: len(b) + 29, At: len(b) + 29, Sealed: true}
	checkScan(t, slices.Concat(b, Foot(3, len(b), last)), 7, sealed)
	whole.Err = api.ErrForm
	for _, foot := range [][]byte{Foot(2, len(b), last), Foot(3, len(b)+1, last), Foot(3, len(b), last-1), append(Foot(3, len(b), last), 0)} {
		checkScan(t, slices.Concat(b, foot), 7, whole)
	}
	checkRefused(t, b, 8, api.ErrForm)
	checkRefused(t, nil, 7, api.ErrShort)
}

// seqs are numbers at the edges.
var seqs = []uint64{0, 1, 10, 255, 256, 1<<32 - 1, 1 << 32, 0x0102030405060708, 1<<63 - 1, 1 << 63, greatest - 1<<32, greatest - 1, greatest}

// P16.1: headers of the numbers that segments have, and of no others.
func TestHead(t *testing.T) {
	for _, seq := range seqs {
		for _, n := range []int{1, 2, 7, 255, 256, 1 << 16, 99999998, api.MaxNumber} {
			want := frame.Make(7, seq, []byte{'s', 't', 'i', 'l', 'l', 'a', 'g', 'e', byte(n), byte(n >> 8), byte(n >> 16), byte(n >> 24), 0, 0, 0, 0})
			got := Head(n, seq)
			if !bytes.Equal(got, want) {
				t.Errorf("Head(%d, %d): % x, want % x", n, seq, got, want)
			}
			checkScan(t, got, n, api.Scan{Seq: seq, End: 37, At: 37})
		}
		for _, n := range []int{0, -1, -2, -7, api.MaxNumber + 1, api.MaxNumber + 2, 1<<32 - 1, 1 << 32, 1<<32 + 7, -1<<32 + 7, math.MinInt32, math.MaxInt32, math.MinInt, math.MinInt + 1, math.MaxInt} {
			if got := Head(n, seq); len(got) != 0 {
				t.Errorf("Head(%d, %d): %d bytes", n, seq, len(got))
			}
		}
	}
}

// P16.1: footers of counts that fit into their bytes, and of no others.
func TestFoot(t *testing.T) {
	right := []int{0, 1, 2, 3, 37, 255, 256, 65536, api.MaxNumber, api.MaxNumber + 1, math.MaxInt32, 1 << 31, 1<<32 - 2, 1<<32 - 1}
	wrong := []int{-1, -2, -37, 1 << 32, 1<<32 + 1, 1<<32 + 37, -1 << 32, -1<<32 + 1, math.MinInt32, math.MinInt, math.MinInt + 1, math.MaxInt, math.MaxInt - 1, 1 << 62}
	for _, seq := range seqs {
		for _, n := range right {
			for _, where := range right {
				want := frame.Make(8, seq, []byte{byte(n), byte(n >> 8), byte(n >> 16), byte(n >> 24), byte(where), byte(where >> 8), byte(where >> 16), byte(where >> 24)})
				if got := Foot(n, where, seq); !bytes.Equal(got, want) {
					t.Errorf("Foot(%d, %d, %d): % x, want % x", n, where, seq, got, want)
				}
			}
			for _, where := range wrong {
				checkNoFoot(t, n, where, seq)
				checkNoFoot(t, where, n, seq)
			}
		}
		for _, n := range wrong {
			for _, where := range wrong {
				checkNoFoot(t, n, where, seq)
			}
		}
	}
}

func checkNoFoot(t *testing.T, n, where int, seq uint64) {
	t.Helper()
	if got := Foot(n, where, seq); len(got) != 0 {
		t.Errorf("Foot(%d, %d, %d): %d bytes", n, where, seq, len(got))
	}
}

// P16.1, P16.2: what Head, batch.Make and Foot make, one behind the other, is found.
func TestMade(t *testing.T) {
	for _, size := range []int{1, 2, 3, 64, 100} {
		b := Head(7, 10)
		next, count := uint64(11), 0
		d := begun(7, 10)
		for range 4 {
			checkScan(t, slices.Concat(b, Foot(count, len(b), next)), 7, d.sealed().all())
			more, after, err := batch.Make(rows(size), next)
			if err != api.OK {
				t.Fatal(err)
			}
			d = d.with(rows(size)...)
			b, next, count = append(b, more...), after, count+size
			checkScan(t, b, 7, d.all())
		}
		checkScan(t, slices.Concat(b, Foot(count, len(b), next+9)), 7, d.sealedBy(next+9).all())
	}
}

// P16.2: segments without a batch, open and sealed.
func TestNoBatch(t *testing.T) {
	for _, n := range []int{1, 2, 7, api.MaxNumber} {
		for _, seq := range seqs[:len(seqs)-1] {
			checkDraft(t, begun(n, seq))
			checkDraft(t, begun(n, seq).sealed())
			checkDraft(t, begun(n, seq).sealedBy(greatest))
		}
		checkDraft(t, begun(n, greatest))
	}
}

// P16.2: batches of up to three records of the five kinds, in any order, open and sealed.
func TestMixtures(t *testing.T) {
	both := func(d draft) {
		checkDraft(t, d)
		checkDraft(t, d.sealed())
	}
	for _, a := range members {
		both(begun(7, 10).with(mixed(a)...))
		for _, b := range members {
			both(begun(7, 10).with(mixed(a, b)...))
			both(begun(7, 10).with(mixed(a)...).with(mixed(b)...))
			for _, c := range members {
				both(begun(7, 10).with(mixed(a, b, c)...))
				both(begun(7, 10).with(mixed(a, b)...).with(mixed(c)...))
				both(begun(7, 10).with(mixed(a)...).with(mixed(b, c)...))
				both(begun(7, 10).with(mixed(a)...).with(mixed(b)...).with(mixed(c)...))
			}
		}
	}
}

// P16.2: many batches, of one record and of many, also more than the segments of a log have.
func TestMany(t *testing.T) {
	for _, size := range []int{1, 2, 63, 64, 65, 300} {
		d := begun(7, 10)
		for range 40 {
			d = d.with(rows(size)...)
		}
		checkDraft(t, d)
		checkDraft(t, d.sealed())
	}
	blob := api.Record{Kind: api.RecBlob, Digest: sample, Data: pattern(api.MaxSeg - 32)}
	d := begun(7, 10)
	for range 15 {
		d = d.with(blob)
	}
	checkDraft(t, d)
	checkDraft(t, d.sealed())
	checkBehind(t, d, make([]byte, api.MaxFile-len(d.b)), api.ErrSum)
	checkDraft(t, begun(7, 10).with(slices.Repeat([]api.Record{blob}, 15)...).sealed())
}

// P16.2: no bytes, and each number of bytes of a header.
func TestShortHeader(t *testing.T) {
	for _, n := range []int{7, 1, 0, -1, 8, api.MaxNumber, api.MaxNumber + 1, math.MinInt, math.MaxInt} {
		checkRefused(t, nil, n, api.ErrShort)
		checkRefused(t, []byte{}, n, api.ErrShort)
		for size := range headSize {
			checkRefused(t, header(7, 10)[:size], n, api.ErrShort)
		}
	}
}

// P16.2: a header of another number is ErrForm, whatever is behind it; that of no number is ErrRange.
func TestOtherNumbers(t *testing.T) {
	edges := []int{-1, 0, 1, 2, 6, 7, 8, 256, 263, api.MaxNumber - 1, api.MaxNumber, api.MaxNumber + 1, 1 << 31, 1<<32 - 1, 1 << 32, 1<<32 + 1, 1<<32 + 7, math.MinInt, math.MinInt + 1, math.MaxInt}
	for _, n := range edges {
		for _, of := range []int{1, 2, 7, api.MaxNumber - 1, api.MaxNumber} {
			d := begun(of, 10)
			for _, b := range [][]byte{d.b, d.sealed().b, d.with(rows(3)...).b, d.with(rows(3)...).sealed().b, append(slices.Clone(d.b), 0), d.with(rows(3)...).b[:99]} {
				if n == of {
					if got := scanned(t, b, n); got.End < headSize {
						t.Errorf("segment %d: %s", n, told(got))
					}
				} else {
					checkRefused(t, b, n, api.ErrForm)
				}
			}
		}
		for _, data := range []string{"\x00\x00\x00\x00\x00\x00\x00\x00", "\x00\xe1\xf5\x05\x00\x00\x00\x00", "\x07\x00\x00\x00\x01\x00\x00\x00", "\xff\xff\xff\xff\xff\xff\xff\xff", "\x07\x00\x00\x00\x00\x00\x00\x80"} {
			b := frame.Make(7, 10, []byte("stillage"+data))
			checkRefused(t, b, n, api.ErrRange)
			checkRefused(t, append(b, batchOf(11, rows(2)...)...), n, api.ErrRange)
		}
	}
}

// P16.2: what is no header at the beginning is told by the error of record.Parse, or is ErrForm; nothing behind it counts.
func TestWrongHeaders(t *testing.T) {
	head := header(7, 10)
	behind := [][]byte{nil, {0}, batchOf(11, rows(2)...), head, slices.Concat(head, batchOf(11, rows(2)...)), footer(0, headSize, 11)}
	for _, more := range behind {
		for at := range head {
			for bit := range 8 {
				b := slices.Concat(head, more)
				b[at] ^= 1 << bit
				checkRefused(t, b, 7, api.ErrSum)
			}
		}
		for _, r := range append(rows(5), api.Record{Kind: api.RecCommit}, api.Record{Kind: api.RecCommit, N: 7, Size: 37}, api.Record{Kind: api.RecFooter}, api.Record{Kind: api.RecFooter, N: 7, Size: 37}) {
			for _, seq := range []uint64{0, 10, greatest} {
				r.Seq, r.N = seq, 7
				checkRefused(t, append(frames(r), more...), 7, api.ErrForm)
				checkRefused(t, append(frames(r), more...), 0, api.ErrForm)
			}
		}
		for err, list := range broken(10) {
			for _, f := range list {
				checkRefused(t, slices.Concat(f, more), 7, err)
				checkRefused(t, slices.Concat(f, more), 0, err)
				if len(more) == 0 {
					checkRefused(t, f[:16], 7, api.ErrShort)
				}
			}
		}
		if len(more) > 1 {
			checkRefused(t, more[1:], 7, api.ErrSum)
		}
	}
	checkRefused(t, batchOf(11, rows(2)...), 7, api.ErrForm)
}

// P16.2: headers, footers and commits at other places, and batches without their commit.
func TestFramesOutOfPlace(t *testing.T) {
	for _, d := range drafts() {
		next, count := d.next(), len(d.all().Words)
		more := batchOf(next+1, rows(2)...)
		sealed := d.sealed()
		for _, behind := range [][]byte{nil, {0}, more} {
			// A second header, of this segment and of others.
			for _, n := range []int{d.n, d.n%api.MaxNumber + 1, 1} {
				for _, seq := range []uint64{next, d.found[0].Seq, next + 5} {
					checkBehind(t, d, slices.Concat(header(n, seq), behind), api.ErrForm)
				}
			}
			// A commit without records.
			for _, c := range []api.Record{{}, {N: count, Size: len(d.b)}, {N: 1, Size: 53}, {N: count, Size: len(d.b) - headSize}} {
				c.Kind, c.Seq = api.RecCommit, next
				checkBehind(t, d, slices.Concat(frames(c), behind), api.ErrForm)
			}
			// A header in a batch instead of its commit, and a footer.
			checkBehind(t, d, slices.Concat(frames(numbered(next, rows(3))...), header(d.n, next+3), behind), api.ErrForm)
			checkBehind(t, d, slices.Concat(frames(numbered(next, rows(3))...), footer(count+3, len(d.b)+100, next+3), behind), api.ErrForm)
		}
		// A footer between two batches, and two footers.
		checkBehind(t, d, slices.Concat(sealed.b[len(d.b):], more), api.ErrForm)
		for _, second := range []draft{d.sealedBy(next + 1), d.sealed()} {
			checkBehind(t, d, slices.Concat(sealed.b[len(d.b):], second.b[len(d.b):]), api.ErrForm)
		}
		checkBehind(t, d, slices.Concat(sealed.b[len(d.b):], footer(count, len(sealed.b), next+1)), api.ErrForm)
		checkBehind(t, d, slices.Concat(sealed.b[len(d.b):], header(d.n, next+1)), api.ErrForm)
		// Batches without their commit, or with a footer in place of it.
		for size := 1; size <= 6; size++ {
			l := numbered(next, rows(size))
			checkBehind(t, d, frames(l...), api.ErrShort)
			foot := footer(count+size, len(d.b)+len(frames(l...)), next+uint64(size))
			checkBehind(t, d, slices.Concat(frames(l...), foot), api.ErrForm)
			checkBehind(t, d, slices.Concat(frames(l...), batchOf(next+uint64(size), rows(1)...)[:30]), api.ErrShort)
		}
	}
}

// P16.2: a footer is right if its N and its Size are, and its number is greater than that of the frame before; then it seals.
func TestFooters(t *testing.T) {
	for _, d := range drafts() {
		n, where, seq := len(d.all().Words), len(d.b), d.all().Seq
		commits := len(d.found) - 1
		ns := []int{n, n - 1, n + 1, 0, maxCount, n + commits, 2 * n, n | 1<<31, n + 256, commits, n + 1 + commits}
		wheres := []int{where, where - 1, where + 1, 0, maxCount, where + footSize, where - footSize, where - headSize, headSize, where | 1<<31, where + 65536}
		numbers := []uint64{seq + 1, seq, seq - 1, seq - 2, 0, seq + 2, seq + 9, seq + 1<<32, greatest, greatest - 1}
		for _, gotN := range ns {
			for _, gotWhere := range wheres {
				for _, gotSeq := range numbers {
					if gotN < 0 || gotWhere < 0 {
						continue
					}
					foot := footer(gotN, gotWhere, gotSeq)
					if gotN == n && gotWhere == where && gotSeq > seq {
						checkDraft(t, d.sealedBy(gotSeq))
					} else {
						checkBehind(t, d, foot, api.ErrForm)
					}
					if gotSeq == seq+1 || gotSeq == seq {
						checkBehind(t, d, append(slices.Clone(foot), 0), api.ErrForm)
						checkBehind(t, d, slices.Concat(foot, batchOf(seq+2, rows(1)...)), api.ErrForm)
					}
				}
			}
		}
	}
}

// P16.2: a footer with a byte behind it, or with many, is wrong, whichever they are.
func TestBehindFooters(t *testing.T) {
	for _, d := range drafts() {
		foot := d.sealed().b[len(d.b):]
		for value := range 256 {
			checkBehind(t, d, append(slices.Clone(foot), byte(value)), api.ErrForm)
		}
		for _, size := range []int{1, 2, 3, 16, 17, 21, 28, 29, 30, 100} {
			for _, more := range [][]byte{make([]byte, size), bytes.Repeat([]byte{255}, size), pattern(size)} {
				checkBehind(t, d, slices.Concat(foot, more), api.ErrForm)
			}
		}
		for size := range foot {
			if size > 0 {
				checkBehind(t, d, foot[:size], api.ErrShort)
			}
		}
		for at := range foot {
			checkBehind(t, d, changed(foot, at), api.ErrSum)
		}
	}
}

// P16.2: the numbers of a batch begin above that of the frame before; some may be left out.
func TestNumbersOfBatches(t *testing.T) {
	for _, d := range drafts() {
		seq := d.all().Seq
		for _, size := range []int{1, 2, 5} {
			for _, first := range []uint64{seq + 1, seq + 2, seq + 3, seq + 10, seq + 1<<32, greatest - uint64(size) - 1, greatest - uint64(size)} {
				grown := d.from(first, rows(size)...)
				checkDraft(t, grown)
				if first < greatest-100 {
					checkDraft(t, grown.with(rows(2)...))
					checkDraft(t, grown.from(grown.next()+7, rows(1)...).sealed())
				}
			}
			for _, first := range []uint64{seq, seq - 1, seq - 2, d.found[0].Seq, d.found[0].Seq - 1, 0, 1} {
				if first > seq {
					continue
				}
				b := batchOf(first, rows(size)...)
				checkBehind(t, d, b, api.ErrForm)
				checkBehind(t, d, slices.Concat(b, batchOf(seq+1, rows(2)...)), api.ErrForm)
				checkBehind(t, d, slices.Concat(b, footer(len(d.all().Words)+size, len(d.b)+len(b), seq+50)), api.ErrForm)
			}
		}
	}
}

// P16.2: the smallest and the greatest numbers, and those around 2^63, in a header, in batches and in a footer.
func TestGreatNumbers(t *testing.T) {
	one, two := mixed(5), mixed(4, 1)
	edges := []uint64{0, 1, 2, 1<<63 - 3, 1<<63 - 2, 1<<63 - 1, 1 << 63, 1<<63 + 1, 1<<63 + 2, greatest - 3, greatest - 2, greatest - 1, greatest}
	for _, first := range edges {
		d := begun(7, first)
		for _, second := range edges {
			if second > first {
				checkDraft(t, d.sealedBy(second))
			} else {
				checkBehind(t, d, footer(0, headSize, second), api.ErrForm)
			}
			for _, l := range [][]api.Record{one, two} {
				commit := second + uint64(len(l))
				if commit < second {
					// No number follows the greatest, 0 neither.
					checkBehind(t, d, batchOf(second, l...), api.ErrForm)
					continue
				}
				if second <= first {
					checkBehind(t, d, batchOf(second, l...), api.ErrForm)
					continue
				}
				grown := d.from(second, l...)
				checkDraft(t, grown)
				for _, third := range edges {
					if third > commit {
						checkDraft(t, grown.sealedBy(third))
					} else {
						checkBehind(t, grown, footer(len(l), len(grown.b), third), api.ErrForm)
					}
					if third > commit && third+1 > third {
						checkDraft(t, grown.from(third, one...))
					} else {
						checkBehind(t, grown, batchOf(third, one...), api.ErrForm)
					}
				}
			}
		}
	}
}

// wrongBatches answers bytes that batch.Parse refuses, by its error; their numbers are those of a batch from seq on.
func wrongBatches(seq uint64) map[api.Errno][][]byte {
	out := broken(seq)
	l := numbered(seq, rows(3))
	right := batchOf(seq, rows(3)...)
	for err, list := range broken(seq + 2) {
		for _, f := range list {
			out[err] = append(out[err], slices.Concat(frames(l[:2]...), f), slices.Concat(frames(l[:2]...), f, right))
		}
	}
	for err, list := range broken(seq + 3) {
		for _, f := range list {
			out[err] = append(out[err], slices.Concat(frames(l...), f))
		}
	}
	commit := func(n, size int, number uint64) []byte {
		return append(frames(l...), frames(api.Record{Kind: api.RecCommit, Seq: number, N: n, Size: size})...)
	}
	size := len(frames(l...))
	out[api.ErrForm] = append(out[api.ErrForm],
		commit(2, size, seq+3), commit(4, size, seq+3), commit(0, size, seq+3), commit(3, size-1, seq+3), commit(3, size+1, seq+3), commit(3, size, seq+2), commit(3, size, seq+4), commit(3, size+headSize, seq+3),
		slices.Concat(frames(l[0], l[2]), right), slices.Concat(frames(l[0], l[0]), right), right[len(frames(l...)):],
		slices.Concat(frames(l[:2]...), header(7, seq+2)), slices.Concat(frames(l[:2]...), footer(3, 99, seq+2)),
	)
	for _, cut := range []int{1, 16, 17, 20, 60, size, size + 1, size + 28} {
		out[api.ErrShort] = append(out[api.ErrShort], right[:cut])
	}
	return out
}

// P16.2: each error of batch.Parse in the first batch, in the second and in the last, also where the numbers are wrong as well; whatever is behind what is wrong counts for nothing.
func TestErrorsOfBatches(t *testing.T) {
	l := [][]api.Record{rows(2), mixed(4), rows(4), mixed(5, 5)}
	d := begun(7, 10)
	for i := range len(l) + 1 {
		for _, seq := range []uint64{d.next(), d.next() + 5, d.all().Seq, d.all().Seq - 1, 0, greatest - 9} {
			for err, list := range wrongBatches(seq) {
				for _, b := range list {
					checkBehind(t, d, b, err)
					if err == api.ErrShort {
						continue
					}
					for _, behind := range [][]byte{{0}, pattern(40), batchOf(d.next()+20, rows(2)...), footer(len(d.all().Words), len(d.b), d.next()), header(7, 10)} {
						checkBehind(t, d, slices.Concat(b, behind), err)
					}
				}
			}
		}
		if i < len(l) {
			d = d.with(l[i]...)
		}
	}
}

// P16.2: of two things that are wrong the first one counts.
func TestFirstError(t *testing.T) {
	for _, d := range drafts() {
		seq, n := d.next(), len(d.all().Words)
		first := broken(seq)
		first[api.ErrForm] = append(first[api.ErrForm], batchOf(seq-1, rows(2)...), footer(n+1, len(d.b), seq), footer(n, len(d.b)+1, seq), footer(n, len(d.b), seq-1), header(d.n, seq))
		for err, list := range first {
			for _, b := range list {
				for _, others := range broken(seq) {
					for _, other := range others {
						checkBehind(t, d, slices.Concat(b, other), err)
						checkBehind(t, d, slices.Concat(b, batchOf(seq+3, rows(2)...), other), err)
					}
				}
				checkBehind(t, d, slices.Concat(b, []byte{3}), err)
			}
		}
	}
}

// P16.2: any bytes behind the last batch, and behind the header, are told by the error of batch.Parse.
func TestBytesBehind(t *testing.T) {
	for _, d := range drafts() {
		for value := range 256 {
			checkBehind(t, d, []byte{byte(value)}, api.ErrShort)
			checkBehind(t, d, bytes.Repeat([]byte{byte(value)}, 16), api.ErrShort)
			checkBehind(t, d, bytes.Repeat([]byte{byte(value)}, 40), api.ErrSum)
		}
		for size := 1; size < 100; size++ {
			want := api.ErrSum
			if size < 17 {
				want = api.ErrShort
			}
			for _, b := range [][]byte{make([]byte, size), bytes.Repeat([]byte{255}, size), pattern(size), bytes.Repeat([]byte("stillage"), size)[:size]} {
				checkBehind(t, d, b, want)
			}
		}
	}
}

// P16.2, P16.3: a segment that is cut at any byte has what ends ahead of it.
func TestCut(t *testing.T) {
	for _, open := range drafts() {
		for _, d := range []draft{open, open.sealed()} {
			for size := range len(d.b) {
				want := d.upTo(size)
				if want.End != size || size == 0 {
					want.Err = api.ErrShort
				}
				checkScan(t, d.b[:size], d.n, want)
			}
			checkDraft(t, d)
		}
	}
}

// P16.2: any one bit that is another one ends what is found with the batch before it.
func TestBits(t *testing.T) {
	for _, d := range []draft{begun(7, 10).with(mixed(3, 1)...).with(mixed(4)...).sealed(), begun(1, 0).sealed()} {
		for at := range d.b {
			for bit := range 8 {
				b := slices.Clone(d.b)
				b[at] ^= 1 << bit
				want := d.upTo(at)
				want.Err = api.ErrSum
				checkScan(t, b, d.n, want)
			}
		}
	}
}

// P16.2: the places of the words are in the segment that was asked for, and tell where their records are.
func TestPlaces(t *testing.T) {
	for _, n := range []int{1, 2, 7, 4096, api.MaxNumber} {
		d := begun(n, 10)
		for size := 1; size < 12; size++ {
			d = d.with(rows(size)...)
		}
		got := scanned(t, d.sealed().b, n)
		at := headSize
		for _, w := range got.Words {
			r, end, err := record.Parse(d.b, w.Loc.Off)
			if err != api.OK || w.Loc.Seg != n || end-w.Loc.Off != w.Loc.Len || w != record.Word(r, w.Loc) {
				t.Errorf("segment %d: %+v, but there is %+v up to %d, %v", n, w, r, end, err)
			}
			if w.Loc.Off != at && w.Loc.Off != at+footSize {
				t.Errorf("segment %d: %+v, want it behind %d", n, w, at)
			}
			at = end
		}
	}
}

// checkParts sees that whatever is found in b is in b, and that in each first part of b as many of it are found as whole batches are there.
func checkParts(t *testing.T, b []byte, n int) {
	t.Helper()
	whole := scanned(t, b, n)
	if whole.End < 0 || whole.End > len(b) || whole.At != whole.End || whole.End == 0 && whole.Err == api.OK {
		t.Errorf("in %d bytes of segment %d: %s", len(b), n, told(whole))
	}
	at := 0
	for _, w := range whole.Words {
		if w.Loc.Off < at || w.Loc.Len < 1 || w.Loc.Off+w.Loc.Len > whole.End || w.Loc.Seg != n {
			t.Errorf("in %d bytes of segment %d: %+v", len(b), n, w)
		}
		at = w.Loc.Off + w.Loc.Len
	}
	for size := range len(b) + 1 {
		part := Scan(b[:size], n)
		count := len(part.Words)
		if count > len(whole.Words) || !slices.Equal(part.Words, whole.Words[:count]) {
			t.Errorf("in %d of %d bytes: %s, but in all: %s", size, len(b), told(part), told(whole))
			continue
		}
		// Between two batches there is a commit, so that a word which begins where another one ends is of the same batch.
		if count > 0 && count < len(whole.Words) && whole.Words[count].Loc.Off == whole.Words[count-1].Loc.Off+whole.Words[count-1].Loc.Len {
			t.Errorf("in %d of %d bytes: %s, which is a part of a batch", size, len(b), told(part))
		}
		// No word is left out whose batch is whole, that is up to the end of its commit.
		if count < len(whole.Words) && commitEnd(whole, count) <= size {
			t.Errorf("in %d of %d bytes: %s, but in all: %s", size, len(b), told(part), told(whole))
		}
		if part.End > size || part.Sealed && part.End != size {
			t.Errorf("in %d of %d bytes: %s", size, len(b), told(part))
		}
	}
}

// commitEnd answers where the batch ends that has the word i of s.
func commitEnd(s api.Scan, i int) int {
	end := s.Words[i].Loc.Off + s.Words[i].Loc.Len
	for i++; i < len(s.Words) && s.Words[i].Loc.Off == end; i++ {
		end += s.Words[i].Loc.Len
	}
	return end + footSize
}

// P16.3: for segments of all sorts, right ones and wrong ones.
func TestParts(t *testing.T) {
	for _, d := range drafts() {
		checkParts(t, d.b, d.n)
		checkParts(t, d.b, d.n+1)
		checkParts(t, d.sealed().b, d.n)
		checkParts(t, append(d.sealed().b, 0, 1, 2), d.n)
		checkParts(t, slices.Concat(d.sealed().b, batchOf(d.next()+1, rows(3)...)), d.n)
		checkParts(t, slices.Concat(d.b, batchOf(d.next()-1, rows(3)...), batchOf(d.next()+3, rows(3)...)), d.n)
		checkParts(t, slices.Concat(d.b, pattern(50)), d.n)
	}
}

// anyNumber answers any number, small ones as often as great ones.
func anyNumber(r *rand.Rand) uint64 { return r.Uint64() >> r.IntN(64) }

// anything answers from 1 to 5 records of any of the five kinds.
func anything(r *rand.Rand) []api.Record {
	var out []api.Record
	for range 1 + r.IntN(5) {
		one := member(members[r.IntN(5)], r.IntN(300))
		if one.Data != nil {
			one.Data = pattern(r.IntN(80))
		}
		out = append(out, one)
	}
	return out
}

// anyDraft answers a right segment, sealed or not.
func anyDraft(r *rand.Rand) draft {
	d := begun(1+int(anyNumber(r)%api.MaxNumber), anyNumber(r)>>1)
	for range r.IntN(6) {
		d = d.from(d.next()+anyNumber(r)>>8*uint64(r.IntN(2)), anything(r)...)
	}
	if r.IntN(2) == 0 {
		return d.sealedBy(d.next() + uint64(r.IntN(3)))
	}
	return d
}

// P16.2, P16.3: any right segments, whole and cut.
func TestRightSamples(t *testing.T) {
	r := rand.New(rand.NewPCG(16, 3))
	for range 5000 {
		d := anyDraft(r)
		checkDraft(t, d)
		size := r.IntN(len(d.b))
		want := d.upTo(size)
		if want.End != size || size == 0 {
			want.Err = api.ErrShort
		}
		checkScan(t, d.b[:size], d.n, want)
		if r.IntN(20) == 0 {
			checkParts(t, d.b, d.n)
		}
	}
}

// nearly answers the bytes of a segment in which sometimes something is wrong.
func nearly(r *rand.Rand) ([]byte, int) {
	d := anyDraft(r)
	s := d.found[r.IntN(len(d.found))]
	ahead, behind := d.b[:s.End], d.b[s.End:]
	l := anything(r)
	seq := s.Seq + uint64(r.IntN(5)) - 1
	var b []byte
	switch r.IntN(10) {
	case 0:
		b = batchOf(seq, l...)
	case 1:
		b = footer(max(0, len(s.Words)+r.IntN(3)-1), max(0, s.End+r.IntN(3)-1), seq)
	case 2:
		b = header(1+r.IntN(3), seq)
	case 3:
		list := broken(seq)[[]api.Errno{api.ErrSum, api.ErrForm, api.ErrName, api.ErrRange}[r.IntN(4)]]
		b = list[r.IntN(len(list))]
	case 4:
		b = slices.Concat(frames(numbered(seq, l)...), behind)
	case 5:
		all := wrongBatches(seq)[api.ErrForm]
		b = all[r.IntN(len(all))]
	case 6:
		b = footer(len(s.Words), s.End, seq)
		behind = behind[:len(behind)*r.IntN(2)]
	case 7:
		if len(behind) > 0 {
			behind = changed(behind, r.IntN(len(behind)))
		}
	case 8:
		behind = behind[:r.IntN(len(behind)+1)]
	case 9:
		ahead = ahead[r.IntN(3)*r.IntN(2):]
	}
	n := d.n
	if r.IntN(20) == 0 {
		n += r.IntN(3) - 1
	}
	return slices.Concat(ahead, b, behind), n
}

// P16.2, P16.3: samples of bytes that are nearly a segment, held against the words of the chapter.
func TestSamples(t *testing.T) {
	r := rand.New(rand.NewPCG(16, 2))
	count, sealed, some := map[api.Errno]int{}, 0, 0
	for i := range 20000 {
		b, n := nearly(r)
		got := scanned(t, b, n)
		count[got.Err]++
		if got.Sealed {
			sealed++
		}
		if got.Err != api.OK && len(got.Words) > 0 {
			some++
		}
		if i%50 == 0 {
			checkParts(t, b, n)
		}
	}
	for _, err := range []api.Errno{api.OK, api.ErrShort, api.ErrSum, api.ErrForm, api.ErrName, api.ErrRange} {
		if count[err] < 100 {
			t.Errorf("%v came up %d times only", err, count[err])
		}
	}
	if sealed < 1000 || some < 1000 {
		t.Errorf("%d were sealed, and %d were wrong behind a batch", sealed, some)
	}
}

// R1: bytes that are none of a segment.
func TestNoSegments(t *testing.T) {
	for size := range 200 {
		for _, b := range [][]byte{make([]byte, size), pattern(size), bytes.Repeat([]byte{255}, size), bytes.Repeat([]byte("stillage"), size)} {
			want := api.ErrSum
			if len(b) < 17 {
				want = api.ErrShort
			}
			for _, n := range []int{0, 1, -1, 7, math.MinInt, math.MaxInt} {
				checkRefused(t, b, n, want)
			}
		}
	}
}

// R3: an answer is of its own: what is done to the argument behind the call does not change it, nor what is done to another answer.
func TestAnswersAreNew(t *testing.T) {
	for _, d := range append(drafts(), begun(3, 4).with(rows(20)...).sealed()) {
		b := slices.Clone(d.b)
		one, two := Scan(b, d.n), Scan(b, d.n)
		spoil(b)
		clear(two.Words[:cap(two.Words)])
		if !isSame(one, d.all()) {
			t.Errorf("%s, want %s", told(one), told(d.all()))
		}
	}
	one, two := Head(7, 10), Head(7, 10)
	spoil(two)
	if !bytes.Equal(one, header(7, 10)) || !bytes.Equal(Head(7, 10), one) {
		t.Errorf("Head: % x", one)
	}
	one, two = Foot(3, 90, 10), Foot(3, 90, 10)
	spoil(two)
	if !bytes.Equal(one, footer(3, 90, 10)) || !bytes.Equal(Foot(3, 90, 10), one) {
		t.Errorf("Foot: % x", one)
	}
}

// R4: the answers do not hang on earlier calls.
func TestAnswersDoNotHangOnEarlierOnes(t *testing.T) {
	all := drafts()
	for _, a := range all {
		for _, b := range all {
			checkDraft(t, a)
			checkDraft(t, b.sealed())
			checkRefused(t, b.b, b.n+1, api.ErrForm)
			checkBehind(t, b, pattern(99), api.ErrSum)
			checkDraft(t, a.sealed())
			if !bytes.Equal(Head(a.n, 5), header(a.n, 5)) || !bytes.Equal(Foot(b.n, 9, 5), footer(b.n, 9, 5)) {
				t.Errorf("Head(%d, 5) or Foot(%d, 9, 5) is another one", a.n, b.n)
			}
		}
	}
}
