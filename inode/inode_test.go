package inode

import (
	"bytes"
	"fmt"
	"math"
	"slices"
	"strings"
	"testing"

	"stillage/api"
)

// most is the length of the longest file.
const most = 1048576

// P10.1: ordinary files, and the durable bytes after their pending changes one after the other.
func TestNow(t *testing.T) {
	for _, c := range []struct {
		x    api.Inode
		want string
	}{
		{file("abc"), "abc"},
		{file("ab", write(2, "cd")), "abcd"},
		{file("ab", write(2, "cde"), cut(1)), "a"},
		{file("ab", write(2, "cde"), cut(1), write(1, "z")), "az"},
		{file("ab", cut(1), write(2, "cde")), "a\x00cde"},
		{file("ab", write(0, "x"), write(0, "y")), "yb"},
		{file("ab", write(0, "xyz"), write(1, "q")), "xqz"},
		{file("ab", write(5, "x")), "ab\x00\x00\x00x"},
		{file("ab", cut(0), write(3, "x")), "\x00\x00\x00x"},
		{file("", write(0, "a"), write(1, "b"), write(2, "c")), "abc"},
		{file("\x00\xff", write(2, "\x80\x00")), "\x00\xff\x80\x00"},
	} {
		checkNow(t, c.x, c.want)
	}
}

// P10.1: files without durable bytes, with nothing pending, and with pending changes that change nothing.
func TestNowOfNone(t *testing.T) {
	for _, lasts := range [][]byte{nil, {}} {
		for _, pending := range [][]api.Write{nil, {}} {
			checkNow(t, api.Inode{Lasts: lasts, Pending: pending}, "")
			checkNow(t, api.Inode{Lasts: []byte("ab"), Pending: pending}, "ab")
		}
		checkNow(t, api.Inode{Lasts: lasts, Pending: []api.Write{write(1, "x")}}, "\x00x")
		checkNow(t, api.Inode{Lasts: lasts, Pending: []api.Write{cut(0), cut(1)}}, "")
	}
	for _, w := range []api.Write{
		{}, {Off: 9}, {Off: 9, Data: []byte{}}, {Off: most}, {Off: most + 1}, {Off: -1}, {Off: math.MinInt}, {Off: math.MaxInt},
		write(-1, "x"), write(-1, "xyz"), write(most, "x"), write(most-1, "xy"), write(math.MaxInt, "x"), write(math.MinInt, "x"),
		write(0, strings.Repeat("x", most+1)), write(1, strings.Repeat("x", most)),
		cut(-1), cut(4), cut(5), cut(most), cut(most + 1), cut(math.MinInt), cut(math.MaxInt),
		{Cut: true, Off: 4, Data: []byte("xyz")}, {Cut: true, Off: 0, Data: make([]byte, most+1)},
	} {
		checkNow(t, file("ab", w), "ab")
		checkNow(t, file("ab", w, write(2, "cd"), w), "abcd")
		checkNow(t, file("abcd", cut(2), w, w), "ab")
	}
	checkNow(t, file("ab", cut(2)), "ab")
	checkNow(t, file("ab", api.Write{Cut: true, Off: 1, Data: []byte("xyz")}), "a")
}

// P10.1: the longest files, and durable bytes that are more than a file may have.
func TestNowOfLongest(t *testing.T) {
	for _, length := range []int{most - 1, most, most + 1, 2 * most} {
		b := pattern(length, 1)
		checkNow(t, api.Inode{Lasts: b}, string(b))
		checkNow(t, api.Inode{Lasts: b, Pending: []api.Write{cut(3), write(4, "x")}}, string(b[:3])+"\x00x")
		checkNow(t, api.Inode{Lasts: b, Pending: []api.Write{cut(most + 1), write(0, "x")}}, "x"+string(b[1:]))
	}
	checkNow(t, file("a", write(most-1, "z")), "a"+strings.Repeat("\x00", most-2)+"z")
}

// P10.1: what is appended stands behind the current bytes, as one more pending change, and nothing of it is durable.
func TestAppend(t *testing.T) {
	for _, c := range []struct {
		x   api.Inode
		end int
		now string
	}{
		{file("ab"), 2, "ab"},
		{file(""), 0, ""},
		{file("ab", write(2, "cd")), 4, "abcd"},
		{file("ab", write(2, "cde"), cut(1)), 1, "a"},
		{file("ab", cut(0)), 0, ""},
		{file("ab", write(0, "x")), 2, "xb"},
		{file("ab", write(5, "x")), 6, "ab\x00\x00\x00x"},
		{file("ab", write(9, "")), 2, "ab"},
		{file("ab", write(-1, "x"), write(most, "x"), cut(-1), cut(most+1)), 2, "ab"},
		{file("ab", api.Write{Cut: true, Off: 1, Data: []byte("xyz")}), 1, "a"},
		{file("ab", api.Write{Cut: true, Off: 1, Data: make([]byte, most)}), 2, "ab"},
		{file("ab", cut(2), cut(2), cut(3)), 2, "ab"},
	} {
		for _, b := range []string{"c", "cde", "\x00", "\xff\x80\x00", strings.Repeat("q", 300)} {
			checkAppend(t, c.x, []byte(b), write(c.end, b), c.now+b)
		}
	}
}

// P10.1: an Append of no bytes, nil or empty, is no change.
func TestAppendOfNone(t *testing.T) {
	for _, x := range files() {
		if len(left(x, full(x))) > most {
			continue
		}
		for _, b := range [][]byte{nil, {}} {
			got, err := Append(x, b)
			if err != api.OK || !same(got, x) {
				t.Errorf("%s with nothing appended is %s, error %d", told(x), told(got), err)
			}
		}
	}
}

// P10.1: just as many bytes as MaxFile allows, and one more; it is the current bytes that count, not the durable ones, nor the Room.
func TestAppendUpToMaxFile(t *testing.T) {
	for _, c := range []struct {
		x    api.Inode
		size int
	}{
		{api.Inode{}, 0},
		{file("ab"), 2},
		{file("ab", write(2, "cde")), 5},
		{file("ab", write(2, "cde"), cut(1)), 1},
		{file("ab", cut(0)), 0},
		{api.Inode{Lasts: pattern(most-1, 1)}, most - 1},
		{api.Inode{Lasts: pattern(most, 1)}, most},
		{api.Inode{Lasts: pattern(most, 1), Pending: []api.Write{cut(most - 3)}}, most - 3},
		{api.Inode{Lasts: pattern(most, 1), Pending: []api.Write{cut(0)}}, 0},
		{api.Inode{Lasts: pattern(2*most, 1), Pending: []api.Write{cut(most)}}, most},
		{api.Inode{Lasts: pattern(2*most, 1), Pending: []api.Write{cut(1)}}, 1},
		{file("", write(most-1, "x")), most},
		{file("", write(most-2, "x")), most - 1},
		{file("", write(most-1, "x"), cut(7)), 7},
	} {
		free, now := most-c.size, string(left(c.x, full(c.x)))
		for _, b := range [][]byte{pattern(free, 3), pattern(max(free-1, 0), 3)} {
			if len(b) > 0 {
				checkAppend(t, c.x, b, api.Write{Off: c.size, Data: b}, now+string(b))
			} else if got, err := Append(c.x, b); err != api.OK || !same(got, c.x) {
				t.Errorf("%s with nothing appended is %s, error %d", told(c.x), told(got), err)
			}
		}
		for _, more := range []int{1, 2, 300, most, 2 * most} {
			checkLarge(t, c.x, pattern(free+more, 3))
		}
	}
	checkLarge(t, file("ab"), make([]byte, 1<<20-1))
}

// P10.1: a file that has more than MaxFile bytes already would still have them, whatever is appended, even if that is nothing.
func TestAppendToTooLong(t *testing.T) {
	for _, x := range []api.Inode{
		{Lasts: pattern(most+1, 1)}, {Lasts: pattern(2*most, 1)},
		{Lasts: pattern(most+2, 1), Pending: []api.Write{cut(most + 1), write(0, "x")}},
	} {
		for _, b := range [][]byte{nil, {}, {1}, {1, 2}, make([]byte, most), make([]byte, most+1)} {
			checkLarge(t, x, b)
		}
	}
}

// P10.1: each Cut to what the file has or to less is one more pending change, the one to its own length as well.
func TestCut(t *testing.T) {
	for _, c := range []struct {
		x    api.Inode
		n    int
		want string
	}{
		{file("abc"), 0, ""}, {file("abc"), 1, "a"}, {file("abc"), 2, "ab"}, {file("abc"), 3, "abc"},
		{file(""), 0, ""},
		{file("ab", write(2, "cde")), 1, "a"}, {file("ab", write(2, "cde")), 4, "abcd"}, {file("ab", write(2, "cde")), 5, "abcde"},
		{file("ab", write(2, "cde"), cut(1)), 1, "a"}, {file("ab", write(2, "cde"), cut(1)), 0, ""},
		{file("ab", write(4, "x")), 3, "ab\x00"}, {file("ab", write(4, "x")), 5, "ab\x00\x00x"},
		{file("ab", cut(-1), write(-1, "x")), 2, "ab"},
		{file("ab", api.Write{Cut: true, Off: 1, Data: []byte("xyz")}), 1, "a"},
	} {
		checkCut(t, c.x, c.n, c.want)
	}
}

// P10.1: to 0, to the length less one and to the length, all is well; below 0 and above the length, nothing is, nearby and far away.
func TestCutAtItsEnds(t *testing.T) {
	for _, x := range files() {
		now := string(left(x, full(x)))
		for _, n := range []int{0, 1, len(now) / 2, len(now) - 1, len(now)} {
			if n < 0 || n > len(now) {
				continue
			}
			want := now
			// A truncation to more than MaxFile bytes is no valid change: it is pending, and changes nothing.
			if n <= most {
				want = now[:n]
			}
			checkCut(t, x, n, want)
		}
		for _, n := range []int{-1, -2, -len(now) - 1, -most, math.MinInt32, math.MinInt, math.MinInt + 1, len(now) + 1, len(now) + 2, 2*len(now) + 1, 4 * most, math.MaxInt32, math.MaxInt - 1, math.MaxInt} {
			checkRange(t, x, n)
		}
	}
}

// P10.1: it is the current length that a Cut is held against, not the durable one, nor the Room.
func TestCutBeyondWhatWas(t *testing.T) {
	for _, c := range []struct {
		x    api.Inode
		size int
	}{
		{file("ab"), 2}, {file("abcdef", cut(2)), 2}, {file("abcdef", cut(2), write(2, "z")), 3}, {file("", write(0, "abc"), cut(1)), 1}, {file("", write(most-1, "x"), cut(3)), 3},
	} {
		for n := -3; n <= 8; n++ {
			if n >= 0 && n <= c.size {
				checkCut(t, c.x, n, string(left(c.x, full(c.x))[:n]))
			} else {
				checkRange(t, c.x, n)
			}
		}
	}
}

// P10.1: a Sync makes durable just what is current.
func TestSync(t *testing.T) {
	for _, x := range files() {
		if got, want := Sync(x), (api.Inode{Lasts: left(x, full(x))}); !same(got, want) {
			t.Errorf("%s is %s behind a Sync", told(x), told(got))
		}
	}
	x := Sync(file("ab", write(2, "cde"), cut(1), write(1, "z")))
	if string(x.Lasts) != "az" || len(x.Pending) != 0 {
		t.Errorf("behind a Sync the file is %s", told(x))
	}
}

// P10.2: an ordinary file with every kind of choice, and the rest of it.
func TestCrash(t *testing.T) {
	x := file("ab", write(2, "cde"), cut(1), write(1, "z"))
	for _, c := range []struct {
		choice     []byte
		want, rest string
	}{
		{[]byte{255, 0, 255, 7}, "azcde", "\x07"},
		{[]byte{2}, "abcd", ""},
		{nil, "ab", ""}, {[]byte{}, "ab", ""}, {[]byte{0}, "ab", ""}, {[]byte{0, 0, 0}, "ab", ""}, {[]byte{0, 0, 0, 0}, "ab", "\x00"},
		{[]byte{1}, "abc", ""}, {[]byte{3}, "abcde", ""}, {[]byte{4}, "abcde", ""}, {[]byte{254}, "abcde", ""}, {[]byte{255}, "abcde", ""},
		{[]byte{0, 1}, "a", ""}, {[]byte{255, 1}, "a", ""}, {[]byte{255, 254}, "a", ""}, {[]byte{0, 255}, "a", ""}, {[]byte{3, 0}, "abcde", ""},
		{[]byte{0, 0, 1}, "az", ""}, {[]byte{0, 0, 255}, "az", ""}, {[]byte{2, 0, 9}, "azcd", ""}, {[]byte{2, 7, 9}, "az", ""}, {[]byte{255, 255, 255}, "az", ""}, {[]byte{2, 7, 0}, "a", ""},
		{[]byte{0, 0, 0, 9}, "ab", "\x09"}, {[]byte{1, 2, 3, 4, 5, 0}, "az", "\x04\x05\x00"}, {[]byte{0, 0, 0, 255, 255, 255}, "ab", "\xff\xff\xff"},
	} {
		checkCrash(t, x, c.choice, c.want, c.rest)
	}
	checkCrash(t, file("ab", write(2, "cd")), []byte{1}, "abc", "")
}

// P10.2: with nothing pending, all of the choice is left; without a choice, the durable bytes are.
func TestCrashOfNone(t *testing.T) {
	for _, pending := range [][]api.Write{nil, {}} {
		for _, lasts := range [][]byte{nil, {}, []byte("ab"), pattern(most, 1), pattern(most+1, 1)} {
			for _, choice := range []string{"", "\x00", "\x01", "\xff", "\x00\xff\x02\x00", strings.Repeat("\xff", 300)} {
				checkCrash(t, api.Inode{Lasts: lasts, Pending: pending}, []byte(choice), string(lasts), choice)
			}
		}
	}
	for _, x := range files() {
		checkCrash(t, x, nil, string(x.Lasts), "")
		checkCrash(t, x, []byte{}, string(x.Lasts), "")
	}
}

// P10.2: one byte of the choice for each pending change, also for one that is not valid or changes nothing.
func TestCrashOfInvalid(t *testing.T) {
	for _, w := range []api.Write{
		{}, {Off: 9}, {Off: -1}, {Off: most + 1}, write(-1, "xyz"), write(-300, strings.Repeat("x", 300)), write(most, "x"), write(most-2, "xyz"), write(most-1, strings.Repeat("x", 300)),
		write(math.MaxInt, "x"), write(math.MinInt, "x"), write(0, strings.Repeat("x", most+1)), cut(-1), cut(most + 1), cut(math.MinInt), cut(math.MaxInt), {Cut: true, Off: 1, Data: make([]byte, most)},
		cut(4), cut(9),
	} {
		for _, c := range []byte{0, 1, 2, 254, 255} {
			checkCrash(t, file("ab", w), []byte{c}, "ab", "")
			checkCrash(t, file("ab", w), []byte{c, c, 7}, "ab", string([]byte{c, 7}))
			checkCrash(t, file("ab", w, write(2, "cd"), w), []byte{c, 1, c}, "abc", "")
			checkCrash(t, file("ab", w, write(2, "cd"), w), []byte{c, 255, c, 0, c}, "abcd", string([]byte{0, c}))
			checkCrash(t, file("ab", w, w, w), []byte{c, c}, "ab", "")
			checkCrash(t, file("ab", w, w, write(0, "XY")), []byte{c, c, 1, c}, "Xb", string([]byte{c}))
		}
	}
	checkCrash(t, file("abc", api.Write{Cut: true, Off: 1, Data: []byte("xyz")}), []byte{1, 3}, "a", "\x03")
	checkCrash(t, file("abc", api.Write{Cut: true, Off: 1, Data: []byte("xyz")}), []byte{0, 3}, "abc", "\x03")
	checkCrash(t, file("ab", write(5, "xyz")), []byte{1}, "ab\x00\x00\x00x", "")
	checkCrash(t, file("ab", write(5, "xyz")), []byte{0}, "ab", "")
	checkCrash(t, file("ab", write(most-2, "xyz"), write(most-2, "xy"), write(2, "z")), []byte{1, 0, 1}, "abz", "")
}

// P10.2: Data around the greatest choice, with choices around its length, of a file that has one more change ahead and behind.
func TestCrashOfLongData(t *testing.T) {
	for _, size := range []int{1, 2, 253, 254, 255, 256, 257, 300} {
		data := string(pattern(size, 1))
		x := file("ab", write(2, data))
		y := file("ab", cut(1), write(1, data), write(0, "Q"))
		for c := range 256 {
			part := data[:min(c, size)]
			if c == 255 {
				part = data
			}
			checkCrash(t, x, []byte{byte(c)}, "ab"+part, "")
			checkCrash(t, x, []byte{byte(c), 0}, "ab"+part, "\x00")
			checkCrash(t, x, []byte{byte(c), 255, 1}, "ab"+part, "\xff\x01")
			checkCrash(t, y, []byte{1, byte(c)}, "a"+part, "")
			checkCrash(t, y, []byte{1, byte(c), 0, 3}, "a"+part, "\x03")
			checkCrash(t, y, []byte{1, byte(c), 1, byte(c), byte(c)}, "Q"+part, string([]byte{byte(c), byte(c)}))
		}
	}
}

// P10.2: the rest of choices of each length behind each number of pending changes.
func TestCrashLeavesRest(t *testing.T) {
	for pending := range 6 {
		x := api.Inode{Lasts: []byte("ab")}
		for range pending {
			x.Pending = append(x.Pending, write(2, "c"))
		}
		for size := range 10 {
			choice := pattern(size, 1)
			_, rest := Crash(x, choice)
			if want := choice[min(pending, size):]; !bytes.Equal(rest, want) {
				t.Errorf("of the choice %v, %d pending changes leave %v", choice, pending, rest)
			}
		}
	}
	var many api.Inode
	for i := range 1000 {
		many.Pending = append(many.Pending, write(i, "c"))
	}
	checkCrash(t, many, bytes.Repeat([]byte{1}, 999), strings.Repeat("c", 999), "")
	checkCrash(t, many, bytes.Repeat([]byte{1}, 1003), strings.Repeat("c", 1000), "\x01\x01\x01")
}

// P10.2: the Room is the greatest length that was to be had, whatever was cut since; what is not valid or writes nothing needs none.
func TestRoom(t *testing.T) {
	for _, c := range []struct {
		x    api.Inode
		want int
	}{
		{api.Inode{}, 0}, {api.Inode{Lasts: []byte{}, Pending: []api.Write{}}, 0}, {file("ab"), 2},
		{file("ab", write(2, "cde"), cut(1)), 5}, {file("ab", write(2, "cde"), cut(1), write(1, "z")), 5}, {file("ab", cut(0)), 2}, {file("ab", cut(0), write(0, "z")), 2},
		{file("abcdef", write(1, "z")), 6}, {file("abcdef", write(5, "z")), 6}, {file("abcdef", write(6, "z")), 7}, {file("ab", write(9, "z"), write(4, "z")), 10}, {file("ab", write(9, "")), 2},
		{file("ab", api.Write{Cut: true, Off: 4, Data: []byte("xyz")}), 2}, {file("ab", write(-1, "xyzxyz"), write(most, "x"), write(most-1, "xy"), write(math.MaxInt, "x")), 2},
		{file("ab", write(most-1, "x")), most}, {file("ab", cut(most), cut(most+1), cut(-1)), 2}, {file("", write(0, strings.Repeat("x", 300))), 300},
		{api.Inode{Lasts: pattern(most, 1)}, most}, {api.Inode{Lasts: pattern(most+7, 1)}, most + 7}, {api.Inode{Lasts: pattern(most+7, 1), Pending: []api.Write{cut(0)}}, most + 7},
	} {
		checkRoom(t, c.x, c.want)
	}
}

// P10.1 and P10.2: every row of up to three of some small changes, with every small choice, on contents of several lengths.
func TestRowsOfChanges(t *testing.T) {
	choices := rows([]byte{0, 1, 2, 255}, 4)
	for _, x := range smallFiles(3) {
		now := left(x, full(x))
		checkNow(t, x, string(now))
		checkAppend(t, x, []byte("EF"), write(len(now), "EF"), string(now)+"EF")
		for n := -1; n <= len(now)+1; n++ {
			if n < 0 || n > len(now) {
				checkRange(t, x, n)
			} else {
				checkCut(t, x, n, string(now[:n]))
			}
		}
		longest := len(x.Lasts)
		for _, choice := range choices {
			if len(choice) > len(x.Pending)+1 {
				break
			}
			want := left(x, choice)
			checkCrash(t, x, choice, string(want), string(choice[min(len(x.Pending), len(choice)):]))
			longest = max(longest, len(want))
			for i := range len(x.Pending) {
				longest = max(longest, len(left(api.Inode{Lasts: x.Lasts, Pending: x.Pending[:i]}, choice)))
			}
		}
		checkRoom(t, x, longest)
	}
}

// P10.3: behind a Sync, no choice loses anything or is used up, and the Room is the length.
func TestCrashBehindSync(t *testing.T) {
	choices := append(rows([]byte{0, 1, 255}, 2), bytes.Repeat([]byte{255}, 300))
	for _, x := range slices.Concat(files(), smallFiles(2)) {
		now := left(x, full(x))
		s := Sync(x)
		checkRoom(t, s, len(now))
		for _, choice := range choices {
			checkCrash(t, s, choice, string(now), string(choice))
		}
	}
}

// P10.3: behind a Sync and one Append, the synced bytes and a prefix of the appended ones are left, just as long as the choice says.
func TestCrashBehindSyncAndAppend(t *testing.T) {
	for _, x := range slices.Concat(files(), smallFiles(2)) {
		now := left(x, full(x))
		for _, size := range []int{1, 2, 254, 255, 256, 300} {
			if len(now)+size > most {
				continue
			}
			data := pattern(size, 9)
			y, err := Append(Sync(x), data)
			if err != api.OK {
				t.Fatalf("%d bytes behind a Sync of %s: error %d", size, told(x), err)
			}
			checkRoom(t, y, len(now)+size)
			for _, c := range []int{0, 1, size - 1, size, 254, 255} {
				part := min(c, size)
				if c >= 255 {
					part = size
				}
				checkCrash(t, y, []byte{byte(min(c, 255)), 7}, string(now)+string(data[:part]), "\x07")
			}
			checkCrash(t, y, nil, string(now), "")
		}
	}
}

// P10.3: a crash behind a crash loses nothing more, and no crash increases the Room, whatever survives.
func TestCrashBehindCrash(t *testing.T) {
	choices := append(rows([]byte{0, 1, 2, 255}, 3), []byte{254, 255, 253, 252, 1, 0, 255})
	for _, x := range slices.Concat(files(), smallFiles(2)) {
		room := Room(x)
		for _, choice := range choices {
			y, rest := Crash(x, choice)
			if got := Room(y); got > room || got != len(y.Lasts) {
				t.Fatalf("the Room of %s is %d, and %d behind a crash by %v", told(x), room, got, choice)
			}
			z, again := Crash(y, rest)
			if !same(z, y) || !bytes.Equal(again, rest) || Room(z) != Room(y) {
				t.Fatalf("%s is %s behind one crash by %v, and %s behind two", told(x), told(y), choice, told(z))
			}
			checkCrash(t, y, choice, string(y.Lasts), string(choice))
		}
	}
}

// P10.1 and P10.2: rows of calls, each of which is done to what the one before left, held against texts.
func TestRowsOfCalls(t *testing.T) {
	for _, row := range rows([]string{"append", "cut", "cut off", "sync", "crash", "crash by 5"}, 5) {
		x, durable, now, room := file("ab"), "ab", "ab", 2
		for i, call := range row {
			switch call {
			case "append":
				s := string(pattern(i+1, byte(i)))
				x, _ = Append(x, []byte(s))
				now += s
				room = max(room, len(now))
			case "cut":
				x, _ = Cut(x, len(now)/2)
				now = now[:len(now)/2]
			case "cut off":
				// One more than there is: an error, and the file as it was.
				x, _ = Cut(x, len(now)+1)
			case "sync":
				x = Sync(x)
				durable, room = now, len(now)
			case "crash":
				x, _ = Crash(x, nil)
				now, room = durable, len(durable)
			case "crash by 5":
				// All of what is pending survives: the choice for a change is never less than what it appends.
				x, _ = Crash(x, bytes.Repeat([]byte{5}, len(x.Pending)))
				durable, room = now, len(now)
			}
			if string(x.Lasts) != durable || string(Now(x)) != now || Room(x) != room {
				t.Fatalf("behind %q the file is %s, its bytes are %q and its Room %d; want %q, %q and %d", row[:i+1], told(x), Now(x), Room(x), durable, now, room)
			}
		}
	}
}

// R3: what comes in is as it was behind each call, with the memory behind it, and an answer is new memory: whatever is done to it, what came in stays, and whatever is done to that, the answer stays.
func TestArgumentsStay(t *testing.T) {
	for name, call := range map[string]func(api.Inode, []byte) (api.Inode, []byte){
		"Now":    func(x api.Inode, _ []byte) (api.Inode, []byte) { return api.Inode{}, Now(x) },
		"Append": func(x api.Inode, b []byte) (api.Inode, []byte) { y, _ := Append(x, b); return y, nil },
		"Append of too much": func(x api.Inode, _ []byte) (api.Inode, []byte) {
			y, _ := Append(x, make([]byte, most+1))
			return y, nil
		},
		"Cut":    func(x api.Inode, _ []byte) (api.Inode, []byte) { y, _ := Cut(x, 0); return y, nil },
		"Cut -1": func(x api.Inode, _ []byte) (api.Inode, []byte) { y, _ := Cut(x, -1); return y, nil },
		"Sync":   func(x api.Inode, _ []byte) (api.Inode, []byte) { return Sync(x), nil },
		"Crash":  Crash,
		"Room":   func(x api.Inode, _ []byte) (api.Inode, []byte) { return api.Inode{}, []byte{byte(Room(x))} },
	} {
		for _, x := range smallFiles(2) {
			for _, b := range []string{"", "\x01", "\xff\x02", "\x00\xff\x01\x02\x03"} {
				checkStays(t, name, call, x, []byte(b))
			}
		}
	}
}

// R3: where the same memory was given twice, the lists of an answer share none even so.
func TestAnswersShareNothing(t *testing.T) {
	b := []byte("abcd")
	x := api.Inode{Lasts: b, Pending: []api.Write{{Off: 4, Data: b}, {Off: 6, Data: b[1:3]}}}
	a, _ := Append(x, b)
	c, _ := Cut(x, 3)
	large, _ := Append(x, make([]byte, most))
	far, _ := Cut(x, -1)
	survivor, rest := Crash(x, b)
	lists := [][]byte{b, Now(x), Sync(x).Lasts, survivor.Lasts, rest}
	for _, y := range []api.Inode{a, c, large, far} {
		lists = append(lists, y.Lasts)
		for _, w := range y.Pending {
			lists = append(lists, w.Data)
		}
	}
	for i, one := range lists {
		was := make([][]byte, len(lists))
		for j, other := range lists {
			was[j] = bytes.Clone(other)
		}
		spoilBytes(one)
		for j, other := range lists {
			if j != i && !bytes.Equal(other, was[j]) {
				t.Errorf("the lists %d and %d share memory", i, j)
			}
		}
	}
}

// R3: two files that are made of one do not meddle with each other, even where that one has memory behind its pending changes.
func TestFilesOfOneFile(t *testing.T) {
	x := spare(file("ab", write(2, "cd")))
	a, _ := Append(x, []byte("1"))
	b, _ := Append(x, []byte("2"))
	c, _ := Cut(x, 0)
	d, _ := Append(a, []byte("3"))
	e, _ := Append(a, []byte("4"))
	for _, one := range []struct {
		x    api.Inode
		want string
	}{{x, "abcd"}, {a, "abcd1"}, {b, "abcd2"}, {c, ""}, {d, "abcd13"}, {e, "abcd14"}} {
		checkNow(t, one.x, one.want)
	}
}

// R3: nil and empty durable bytes, pending changes and Data are the same.
func TestNilAndEmpty(t *testing.T) {
	for _, lasts := range [][]byte{nil, {}} {
		for _, pending := range [][]api.Write{nil, {}, {{}}, {{Data: []byte{}}}, {cut(0)}, {{Cut: true, Data: []byte{}}}} {
			x := api.Inode{Lasts: lasts, Pending: pending}
			checkNow(t, x, "")
			checkAppend(t, x, []byte("a"), write(0, "a"), "a")
			checkCut(t, x, 0, "")
			checkRoom(t, x, 0)
			checkCrash(t, x, bytes.Repeat([]byte{255}, len(pending)), "", "")
			checkCrash(t, Sync(x), []byte{1, 2}, "", "\x01\x02")
		}
	}
}

// files answers files of all kinds: ordinary ones, empty ones, long ones, too long ones, and such with pending changes that are not valid.
func files() []api.Inode {
	invalid := []api.Write{write(-1, "xyz"), cut(-1), write(most, "x"), cut(most + 1), write(math.MaxInt, "x"), {Cut: true, Off: 1, Data: make([]byte, most)}}
	long := string(pattern(300, 4))
	return []api.Inode{
		{}, {Lasts: []byte{}, Pending: []api.Write{}}, {Pending: []api.Write{}}, {Lasts: []byte{}},
		file("a"), file("abc"), file("ab", write(2, "cde")), file("ab", write(2, "cde"), cut(1)), file("ab", write(2, "cde"), cut(1), write(1, "z")),
		file("", write(0, "abc")), file("", write(7, "abc")), file("ab", write(7, "abc"), cut(8)), file("ab", write(9, "")), file("abc", cut(0)), file("abc", cut(0), write(1, long)),
		file("abcdef", invalid...), file("", invalid...), file("abcdef", append(invalid, write(6, "g"))...), file("abcdef", slices.Concat([]api.Write{cut(3)}, invalid, []api.Write{write(2, long)})...),
		file("abc", api.Write{Cut: true, Off: 2, Data: []byte("xyz")}), file("abc", api.Write{Cut: true, Off: 9, Data: []byte("xyz")}),
		file(long, write(300, long), write(600, long), cut(450)), file("ab", write(most-1, "z")), file("ab", write(most-300, long), cut(1)),
		{Lasts: pattern(most-1, 1)}, {Lasts: pattern(most, 1)}, {Lasts: pattern(most, 1), Pending: []api.Write{cut(most - 1)}}, {Lasts: pattern(most, 1), Pending: []api.Write{cut(0)}},
		{Lasts: pattern(most+1, 1)}, {Lasts: pattern(most+1, 1), Pending: []api.Write{cut(most + 1)}}, {Lasts: pattern(2*most, 1), Pending: []api.Write{write(3, "x"), cut(4)}},
	}
}

// smallFiles answers files of several small contents with all rows of up to n of some small changes pending.
func smallFiles(n int) []api.Inode {
	var out []api.Inode
	for _, l := range rows(smallChanges(), n) {
		for _, b := range [][]byte{nil, []byte("ab"), []byte("abcde")} {
			out = append(out, api.Inode{Lasts: b, Pending: l})
		}
	}
	return out
}

// smallChanges answers changes of some bytes, Cuts, and such as are not valid or change nothing.
func smallChanges() []api.Write {
	return []api.Write{
		{}, write(0, "P"), write(1, "TUV"), write(2, "WX"), write(7, "I"), write(9, ""), cut(0), cut(2), cut(8), {Cut: true, Off: 1, Data: []byte("JK")},
		write(-1, "LMN"), cut(-1), write(most, "O"),
	}
}

// rows answers all rows of up to n of the elements, the shorter ones first.
func rows[T any](elements []T, n int) [][]T {
	out := [][]T{nil}
	last := out
	for range n {
		var next [][]T
		for _, row := range last {
			for _, e := range elements {
				next = append(next, append(slices.Clone(row), e))
			}
		}
		out = append(out, next...)
		last = next
	}
	return out
}

// left answers what is left of x by a choice, put together byte by byte.
func left(x api.Inode, choice []byte) []byte {
	out := bytes.Clone(x.Lasts)
	for i, w := range x.Pending {
		c := 0
		if i < len(choice) {
			c = int(choice[i])
		}
		if c == 0 || w.Off < 0 || w.Off > most || len(w.Data) > most || w.Off+len(w.Data) > most {
			continue
		}
		if w.Cut {
			out = out[:min(w.Off, len(out))]
			continue
		}
		for j, d := range w.Data {
			if c != 255 && j == c {
				break
			}
			for len(out) <= w.Off+j {
				out = append(out, 0)
			}
			out[w.Off+j] = d
		}
	}
	return out
}

// full answers the choice by which all of what is pending survives.
func full(x api.Inode) []byte { return bytes.Repeat([]byte{255}, len(x.Pending)) }

// file answers a file.
func file(lasts string, pending ...api.Write) api.Inode {
	return api.Inode{Lasts: []byte(lasts), Pending: pending}
}

// pattern answers n bytes, none of which is 0 and each other than its neighbours.
func pattern(n int, start byte) []byte {
	b := make([]byte, n)
	for i := range b {
		b[i] = byte((i+int(start))%251) + 1
	}
	return b
}

func write(off int, s string) api.Write { return api.Write{Off: off, Data: []byte(s)} }

func cut(off int) api.Write { return api.Write{Cut: true, Off: off} }

// same tells whether two files are the same, where nil and empty are.
func same(x, y api.Inode) bool {
	return bytes.Equal(x.Lasts, y.Lasts) && slices.EqualFunc(x.Pending, y.Pending, func(v, w api.Write) bool {
		return v.Cut == w.Cut && v.Off == w.Off && bytes.Equal(v.Data, w.Data)
	})
}

// copied answers a copy of x with the memory behind each of its slices, and without any of the memory itself.
func copied(x api.Inode) api.Inode {
	out := api.Inode{Lasts: bytes.Clone(x.Lasts[:cap(x.Lasts)]), Pending: slices.Clone(x.Pending[:cap(x.Pending)])}
	for i, w := range out.Pending {
		out.Pending[i].Data = bytes.Clone(w.Data[:cap(w.Data)])
	}
	return out
}

// spare answers a copy of x with other things in the memory behind each of its slices.
func spare(x api.Inode) api.Inode {
	out := api.Inode{Lasts: behind(x.Lasts)}
	for _, w := range x.Pending {
		out.Pending = append(out.Pending, api.Write{Cut: w.Cut, Off: w.Off, Data: behind(w.Data)})
	}
	n := len(out.Pending)
	out.Pending = append(out.Pending, write(1, "spare"), cut(1), write(3, "more"))[:n]
	return out
}

// behind answers a copy of b with spare bytes behind it.
func behind(b []byte) []byte {
	return append(bytes.Clone(b), strings.Repeat("S", 40)...)[:len(b)]
}

// spoil changes each byte of x and all of its pending changes, and what is behind them.
func spoil(x api.Inode) {
	spoilBytes(x.Lasts)
	l := x.Pending[:cap(x.Pending)]
	for i := range l {
		spoilBytes(l[i].Data)
		l[i] = api.Write{Cut: !l[i].Cut, Off: l[i].Off + 1, Data: []byte("spoiled")}
	}
}

// spoilBytes changes each byte of b and behind it.
func spoilBytes(b []byte) {
	for i := range b[:cap(b)] {
		b[:cap(b)][i] ^= 0xff
	}
}

func checkStays(t *testing.T, name string, call func(api.Inode, []byte) (api.Inode, []byte), x api.Inode, b []byte) {
	t.Helper()
	x, b = spare(x), behind(b)
	was, wasBytes := copied(x), bytes.Clone(b[:cap(b)])
	stays := func() bool { return same(copied(x), was) && bytes.Equal(b[:cap(b)], wasBytes) }
	y, rest := call(x, b)
	if !stays() {
		t.Fatalf("%s changed what it was given: %s, %v", name, told(x), b)
	}
	wantFile, want := trimmed(y), bytes.Clone(rest)
	spoil(y)
	spoilBytes(rest)
	if !stays() {
		t.Fatalf("the answer of %s shares memory with what it was given: %s, %v", name, told(x), b)
	}
	y, rest = call(x, b)
	spoil(x)
	spoilBytes(b)
	if !same(y, wantFile) || !bytes.Equal(rest, want) {
		t.Fatalf("%s answers %s, %v and then %s, %v", name, told(wantFile), want, told(y), rest)
	}
}

// trimmed answers a copy of x in memory of its own.
func trimmed(x api.Inode) api.Inode {
	out := api.Inode{Lasts: bytes.Clone(x.Lasts)}
	for _, w := range x.Pending {
		out.Pending = append(out.Pending, api.Write{Cut: w.Cut, Off: w.Off, Data: bytes.Clone(w.Data)})
	}
	return out
}

func checkNow(t *testing.T, x api.Inode, want string) {
	t.Helper()
	if got := Now(x); string(got) != want {
		t.Errorf("the bytes of %s are %s, want %s", told(x), short(got), short([]byte(want)))
	}
}

// checkAppend holds what is appended to x against the change that is then pending, and the bytes that are then current.
func checkAppend(t *testing.T, x api.Inode, b []byte, change api.Write, now string) {
	t.Helper()
	want := api.Inode{Lasts: x.Lasts, Pending: append(slices.Clone(x.Pending), change)}
	got, err := Append(x, b)
	if err != api.OK || !same(got, want) {
		t.Errorf("%s with %d bytes appended is %s, error %d", told(x), len(b), told(got), err)
	}
	checkNow(t, got, now)
}

// checkLarge tells whether b is too much for x, and x stays as it is.
func checkLarge(t *testing.T, x api.Inode, b []byte) {
	t.Helper()
	if got, err := Append(x, b); err != api.ErrLarge || !same(got, x) {
		t.Errorf("%s with %d bytes appended is %s, error %d", told(x), len(b), told(got), err)
	}
}

// checkCut holds what is left of x by a Cut to n against the bytes that are then current.
func checkCut(t *testing.T, x api.Inode, n int, now string) {
	t.Helper()
	want := api.Inode{Lasts: x.Lasts, Pending: append(slices.Clone(x.Pending), cut(n))}
	got, err := Cut(x, n)
	if err != api.OK || !same(got, want) {
		t.Errorf("a Cut to %d of %s is %s, error %d", n, told(x), told(got), err)
	}
	checkNow(t, got, now)
}

// checkRange tells whether no Cut of x to n is possible, and x stays as it is.
func checkRange(t *testing.T, x api.Inode, n int) {
	t.Helper()
	if got, err := Cut(x, n); err != api.ErrRange || !same(got, x) {
		t.Errorf("a Cut to %d of %s is %s, error %d", n, told(x), told(got), err)
	}
}

// checkCrash holds what a crash leaves against the bytes that are then durable, with nothing pending, and the rest of the choice.
func checkCrash(t *testing.T, x api.Inode, choice []byte, want, rest string) {
	t.Helper()
	got, end := Crash(x, choice)
	if string(got.Lasts) != want || len(got.Pending) != 0 {
		t.Errorf("%s is %s behind a crash by %v, want %s", told(x), told(got), choice[:min(len(choice), 9)], short([]byte(want)))
	}
	if string(end) != rest {
		t.Errorf("%s leaves %v of the choice %v, want %v", told(x), end, choice[:min(len(choice), 9)], []byte(rest))
	}
}

func checkRoom(t *testing.T, x api.Inode, want int) {
	t.Helper()
	if got := Room(x); got != want {
		t.Errorf("the Room of %s is %d, want %d", told(x), got, want)
	}
}

// told answers a file as a text, short enough to be shown.
func told(x api.Inode) string {
	s := short(x.Lasts)
	for _, w := range x.Pending[:min(len(x.Pending), 9)] {
		kind := "write"
		if w.Cut {
			kind = "Cut"
		}
		s += fmt.Sprintf(", %s at %d of %s", kind, w.Off, short(w.Data))
	}
	return fmt.Sprintf("(%s; %d pending)", s, len(x.Pending))
}

// short answers bytes as a text, or their beginning and their length.
func short(b []byte) string {
	if len(b) <= 20 {
		return fmt.Sprintf("%q", b)
	}
	return fmt.Sprintf("%q.. (%d bytes)", b[:20], len(b))
}
