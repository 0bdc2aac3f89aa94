package folder

import (
	"fmt"
	"math"
	"slices"
	"strings"
	"testing"

	"stillage/api"
)

// P11.1: ordinary folders, and the durable names after their pending changes one after the other.
func TestNow(t *testing.T) {
	ab := list("a", 1, "b", 2)
	for _, c := range []struct {
		f    api.Folder
		want []api.Named
	}{
		{of(ab), ab},
		{of(ab, create("c", 3)), list("a", 1, "b", 2, "c", 3)},
		{of(ab, create("c", 3), rename("c", "b")), list("a", 1, "b", 3)},
		{of(ab, create("c", 3), rename("c", "b"), remove("a")), list("b", 3)},
		{of(ab, remove("a")), list("b", 2)}, {of(ab, remove("b")), list("a", 1)}, {of(ab, remove("b"), remove("a")), nil},
		{of(ab, create("0", 3)), list("0", 3, "a", 1, "b", 2)}, {of(ab, create("aa", 3)), list("a", 1, "aa", 3, "b", 2)},
		{of(ab, rename("a", "c")), list("b", 2, "c", 1)}, {of(ab, rename("b", "0")), list("0", 2, "a", 1)},
		{of(ab, rename("a", "b")), list("b", 1)}, {of(ab, rename("b", "a")), list("a", 2)},
		{of(ab, rename("a", "t"), rename("b", "a"), rename("t", "b")), list("a", 2, "b", 1)},
		{of(ab, rename("a", "b"), rename("b", "c"), rename("c", "a")), list("a", 1)},
		{of(ab, remove("a"), create("a", 3)), list("a", 3, "b", 2)}, {of(ab, rename("a", "c"), create("a", 3)), list("a", 3, "b", 2, "c", 1)},
		{of(ab, remove("a"), create("a", 3), remove("a")), list("b", 2)}, {of(ab, create("c", 3), remove("c"), create("c", 4)), list("a", 1, "b", 2, "c", 4)},
		{of(nil, create("b", 1), create("a", 2)), list("a", 2, "b", 1)}, {of(nil, create("a", 1), remove("a")), nil},
	} {
		checkNow(t, c.f, c.want)
	}
}

// P11.1: folders without durable names, with nothing pending, and with pending changes that change nothing.
func TestNowOfNone(t *testing.T) {
	for _, lasts := range [][]api.Named{nil, {}} {
		for _, pending := range [][]api.Change{nil, {}} {
			checkNow(t, api.Folder{Lasts: lasts, Pending: pending}, nil)
			checkNow(t, api.Folder{Lasts: list("a", 1, "b", 2), Pending: pending}, list("a", 1, "b", 2))
			checkNow(t, api.Folder{Lasts: list("b", 2, "a", 1), Pending: pending}, list("a", 1, "b", 2))
		}
		checkNow(t, api.Folder{Lasts: lasts, Pending: []api.Change{remove("a"), remove(""), rename("a", "b"), rename("a", "a"), rename("", "a"), {}}}, nil)
		checkNow(t, api.Folder{Lasts: lasts, Pending: []api.Change{rename("a", "b"), create("a", 1), remove("b")}}, list("a", 1))
	}
	for _, c := range []api.Change{
		rename("a", "a"), rename("b", "b"), rename("c", "c"), rename("", ""), rename("c", "a"), rename("c", "d"), rename("", "a"), rename("A", "b"), rename("a\x00", "b"), rename("a ", "b"),
		{Kind: api.ChRename, Name: "a", To: "a", Id: 9}, {Kind: api.ChRename, Name: "c", To: "b", Id: 9},
		remove("c"), remove(""), remove("A"), remove("aa"), remove("a\x00"), remove(" a"), {Kind: api.ChRemove, Name: "c", To: "a", Id: 1}, {Kind: api.ChRemove, To: "a", Id: 1},
	} {
		checkNow(t, of(list("a", 1, "b", 2), c), list("a", 1, "b", 2))
		checkNow(t, of(list("a", 1, "b", 2), c, rename("b", "x"), c), list("a", 1, "x", 2))
		checkNow(t, of(nil, c, create("a", 1), create("b", 2), c), list("a", 1, "b", 2))
	}
}

// P11.1: a change of none of the three kinds changes nothing, whatever names it has.
func TestNowOfOtherKinds(t *testing.T) {
	for _, kind := range otherKinds() {
		for _, c := range []api.Change{{Kind: kind}, {Kind: kind, Name: "a", To: "b", Id: 9}, {Kind: kind, Name: "c", To: "a", Id: 9}, {Kind: kind, Name: "a", To: "c", Id: 9}, {Kind: kind, Name: "b"}, {Kind: kind, Name: "c", Id: 3}} {
			checkNow(t, of(list("a", 1, "b", 2), c), list("a", 1, "b", 2))
			checkNow(t, of(list("b", 2, "a", 1), c, remove("a"), c), list("b", 2))
			checkNow(t, of(nil, c), nil)
		}
	}
}

// P11.1: durable names in any order, several times, and such as no call would take; the order is that of bytes.
func TestNowOfAnyNames(t *testing.T) {
	long := strings.Repeat("x", 33)
	ascending := list("", 1, "\x00", 2, "\n", 3, " ", 4, "/", 5, "0", 6, "10", 7, "9", 8, "A", 9, "B", 10, "Z", 11, "a", 12, "a\x00", 13, "a b", 14, "aA", 15, "aa", 16, "ab", 17, "b", 18, long[1:], 19, long, 20, long+"y", 21, "z", 22, "\x7f", 23, "\x80", 24, "é", 25, "\U0001f600", 26, "\xff", 27, "\xff\x00", 28)
	for turn := range ascending {
		l := slices.Concat(ascending[turn:], ascending[:turn])
		checkNow(t, of(l), ascending)
		slices.Reverse(l)
		checkNow(t, of(l), ascending)
		checkNow(t, of(slices.Concat(l, list("a", 100, "\xff", 101, "", 102), l)), ascending)
		var creates []api.Change
		for _, x := range l {
			creates = append(creates, create(x.Name, x.Id))
		}
		checkNow(t, of(nil, creates...), ascending)
	}
	for _, c := range []struct {
		lasts, want []api.Named
	}{
		{list("a", 1, "a", 2), list("a", 1)}, {list("a", 2, "a", 1), list("a", 2)}, {list("a", 2, "a", 1, "a", 3), list("a", 2)}, {list("a", 0, "a", 1), list("a", 0)}, {list("a", -1, "a", 1), list("a", -1)},
		{list("b", 3, "a", 2, "b", 1, "a", 4), list("a", 2, "b", 3)}, {list("a", 1, "a", 1), list("a", 1)}, {list("", 7, "", 8), list("", 7)}, {list("b", 1, "c", 2, "a", 3, "b", 4), list("a", 3, "b", 1, "c", 2)},
	} {
		checkNow(t, of(c.lasts), c.want)
	}
}

// P11.1: the first occurrence counts for the changes as well: once it is gone, no other one comes up.
func TestNowBehindOccurrences(t *testing.T) {
	l := list("b", 5, "a", 1, "a", 2, "b", 6, "a", 3)
	for _, c := range []struct {
		f    api.Folder
		want []api.Named
	}{
		{of(l, remove("a")), list("b", 5)}, {of(l, remove("a"), remove("a")), list("b", 5)}, {of(l, rename("a", "c")), list("b", 5, "c", 1)}, {of(l, rename("a", "c"), rename("a", "d")), list("b", 5, "c", 1)},
		{of(l, rename("a", "b")), list("b", 1)}, {of(l, rename("b", "a")), list("a", 5)}, {of(l, create("a", 9)), list("a", 9, "b", 5)}, {of(l, create("a", 9), remove("a")), list("b", 5)}, {of(l, rename("a", "a")), list("a", 1, "b", 5)},
		{of(l, remove("a"), create("a", 9)), list("a", 9, "b", 5)}, {of(l, remove("b"), remove("a"), remove("b")), nil},
	} {
		checkNow(t, c.f, c.want)
	}
}

// P11.1: pending changes that Do would not take are done even so.
func TestNowOfWrongChanges(t *testing.T) {
	long := strings.Repeat("x", 33)
	l := list("a", 1, "b", 2)
	for _, c := range []struct {
		f    api.Folder
		want []api.Named
	}{
		{of(l, create("a", 3)), list("a", 3, "b", 2)}, {of(l, create("a", 3), create("a", 4)), list("a", 4, "b", 2)}, {of(nil, create("a", 3), create("a", 2)), list("a", 2)}, {of(nil, create("a", 3), create("a", 3)), list("a", 3)},
		{of(l, create("", 3)), list("", 3, "a", 1, "b", 2)}, {of(l, create("a/b", 3)), list("a", 1, "a/b", 3, "b", 2)}, {of(l, create("a b", 3), create(long, 4)), list("a", 1, "a b", 3, "b", 2, long, 4)},
		{of(l, rename("a", "")), list("", 1, "b", 2)}, {of(l, rename("a", ""), rename("", "c")), list("b", 2, "c", 1)}, {of(l, rename("b", long)), list("a", 1, long, 2)}, {of(l, create("", 3), remove("")), l}, {of(list("", 3, "a", 1), remove("")), list("a", 1)},
		{of(l, api.Change{Kind: api.ChCreate, Name: "c", To: "d", Id: 3}), list("a", 1, "b", 2, "c", 3)}, {of(l, api.Change{Kind: api.ChRename, Name: "a", To: "c", Id: 3}), list("b", 2, "c", 1)}, {of(l, api.Change{Kind: api.ChRemove, Name: "a", To: "b", Id: 2}), list("b", 2)},
	} {
		checkNow(t, c.f, c.want)
	}
}

// P11.1: names that are nearly the same are not taken for each other, in whatever change.
func TestNowOfNearNames(t *testing.T) {
	near := ordered(list("a", 1, "A", 2, "a ", 3, " a", 4, "a\x00", 5, "aa", 6, "", 7, "a\n", 8, "a/", 9, "\u00e0", 10, "a\u0300", 11, "\xff", 12, "\xfe", 13, "\ufffd", 14))
	for i, x := range near {
		others := slices.Delete(slices.Clone(near), i, i+1)
		plus := func(s string, id int) []api.Named { return ordered(append(slices.Clone(others), list(s, id)...)) }
		checkNow(t, of(near, remove(x.Name)), others)
		checkNow(t, of(near, rename(x.Name, "zz")), plus("zz", x.Id))
		checkNow(t, of(others, create("zz", 99), rename("zz", x.Name)), plus(x.Name, 99))
		checkNow(t, of(others, create(x.Name, 99)), plus(x.Name, 99))
		checkNow(t, of(near, create(x.Name, 99)), plus(x.Name, 99))
		checkNow(t, of(others, remove(x.Name), rename(x.Name, "zz")), others)
		checkDone(t, of(near), remove(x.Name), others)
		checkDone(t, of(near), rename(x.Name, "zz"), plus("zz", x.Id))
		checkFails(t, of(others), remove(x.Name), api.ErrNone)
		checkFails(t, of(others), rename(x.Name, "zz"), api.ErrNone)
		if valid(x.Name) {
			checkDone(t, of(others), create(x.Name, 99), plus(x.Name, 99))
			checkDone(t, of(others, create("zz", 99)), rename("zz", x.Name), plus(x.Name, 99))
			checkFails(t, of(near), create(x.Name, 99), api.ErrTwice)
		}
	}
}

// P11.1: numbers of files are taken as they are: several names with one, 0, those below 0, and the ends.
func TestNowOfAnyNumbers(t *testing.T) {
	for _, id := range []int{0, 1, -1, math.MinInt, math.MaxInt, math.MinInt32, math.MaxInt32, api.MaxNumber + 1} {
		checkNow(t, of(list("a", id)), list("a", id))
		checkNow(t, of(nil, create("a", id)), list("a", id))
		checkNow(t, of(list("b", id, "a", id), create("c", id)), list("a", id, "b", id, "c", id))
		checkNow(t, of(list("b", id, "a", id), remove("b")), list("a", id))
		checkNow(t, of(list("b", id, "a", 1), rename("b", "a")), list("a", id))
		checkNow(t, of(list("b", 1, "a", id), rename("b", "a")), list("a", 1))
		checkNow(t, of(list("a", id, "a", 1)), list("a", id))
	}
}

// P11.1: many names and many changes; each call answers the same, however names are kept.
func TestNowOfMany(t *testing.T) {
	const n = 3000
	var f api.Folder
	var want []api.Named
	for i := range n {
		s := fmt.Sprintf("%05d", i*7919%n)
		f.Lasts = append(f.Lasts, api.Named{Name: s, Id: i})
		f.Pending = append(f.Pending, create("x"+s, -i), rename("x"+s, "y"+s), remove(s), rename("y"+s, s))
		want = append(want, api.Named{Name: fmt.Sprintf("%05d", i)})
	}
	for i := range n {
		want[i*7919%n].Id = -i
	}
	for range 3 {
		checkNames(t, f, Now(f), want)
		checkNames(t, f, Crash(f, 4*n-1).Lasts, append(slices.Delete(slices.Clone(want), (n-1)*7919%n, (n-1)*7919%n+1), api.Named{Name: fmt.Sprintf("y%05d", (n-1)*7919%n), Id: 1 - n}))
		checkNames(t, f, Crash(f, 4).Lasts[:1], list("00000", 0))
	}
	if l := Ids(f); len(l) != 2*n-1 || l[0] != 1-n || l[n] != 1 || l[2*n-2] != n-1 {
		t.Errorf("there are %d numbers", len(l))
	}
}

// P11.1: Find tells the number 0 of a file from none, and takes no name for another one.
func TestFind(t *testing.T) {
	f := of(list("a", 0, "b", 2, "b", 3, "", -4, "x y", 5), create("c", 0), rename("b", "d"), remove("a"), create("a", 7), create("e", 8), remove("e"))
	for _, c := range []struct {
		name  string
		id    int
		found bool
	}{
		{"a", 7, true}, {"c", 0, true}, {"d", 2, true}, {"", -4, true}, {"x y", 5, true},
		{"b", 0, false}, {"e", 0, false}, {"A", 0, false}, {"aa", 0, false}, {"a\x00", 0, false}, {" ", 0, false}, {"x", 0, false}, {"x y ", 0, false}, {"D", 0, false}, {strings.Repeat("a", 1000), 0, false},
	} {
		checkFind(t, f, c.name, c.id, c.found)
	}
	for _, s := range []string{"", "a", "/", strings.Repeat("a", 1000)} {
		checkFind(t, api.Folder{}, s, 0, false)
		checkFind(t, of([]api.Named{}, []api.Change{}...), s, 0, false)
	}
}

// P11.1: a change that can be done is one more pending change, just as it came, the parts that its kind has no use for as well.
func TestDo(t *testing.T) {
	f := of(list("b", 2, "a", 1, "a", 8, "x y", 4, "", 5), create("c", 3), rename("b", "d"), remove("c"), create("e", 6))
	rest := list("", 5, "a", 1, "d", 2, "e", 6, "x y", 4)
	for _, c := range []struct {
		c    api.Change
		want []api.Named
	}{
		{create("f", 9), append(slices.Clone(rest[:4]), list("f", 9, "x y", 4)...)},
		{create("b", 2), list("", 5, "a", 1, "b", 2, "d", 2, "e", 6, "x y", 4)}, {create("c", 1), list("", 5, "a", 1, "c", 1, "d", 2, "e", 6, "x y", 4)},
		{create("f", -1), list("", 5, "a", 1, "d", 2, "e", 6, "f", -1, "x y", 4)}, {create("f", math.MinInt), list("", 5, "a", 1, "d", 2, "e", 6, "f", math.MinInt, "x y", 4)}, {create("f", math.MaxInt), list("", 5, "a", 1, "d", 2, "e", 6, "f", math.MaxInt, "x y", 4)},
		{api.Change{Kind: api.ChCreate, Name: "f", To: "a/b", Id: 6}, list("", 5, "a", 1, "d", 2, "e", 6, "f", 6, "x y", 4)},
		{rename("a", "f"), list("", 5, "d", 2, "e", 6, "f", 1, "x y", 4)}, {rename("a", "d"), list("", 5, "d", 1, "e", 6, "x y", 4)}, {rename("a", "a"), rest}, {rename("e", "e"), rest}, {rename("e", "a"), list("", 5, "a", 6, "d", 2, "x y", 4)},
		{rename("x y", "y"), list("", 5, "a", 1, "d", 2, "e", 6, "y", 4)}, {rename("", "d"), list("a", 1, "d", 5, "e", 6, "x y", 4)}, {rename("d", "b"), list("", 5, "a", 1, "b", 2, "e", 6, "x y", 4)},
		{api.Change{Kind: api.ChRename, Name: "a", To: "f", Id: 77}, list("", 5, "d", 2, "e", 6, "f", 1, "x y", 4)}, {api.Change{Kind: api.ChRename, Name: "a", To: "a", Id: -7}, rest},
		{remove("a"), list("", 5, "d", 2, "e", 6, "x y", 4)}, {remove("e"), list("", 5, "a", 1, "d", 2, "x y", 4)}, {remove("x y"), rest[:4]}, {remove(""), rest[1:]},
		{api.Change{Kind: api.ChRemove, Name: "a", To: "a/b", Id: 2}, list("", 5, "d", 2, "e", 6, "x y", 4)}, {api.Change{Kind: api.ChRemove, Name: "a", To: "d", Id: math.MinInt}, list("", 5, "d", 2, "e", 6, "x y", 4)},
	} {
		checkDone(t, f, c.c, c.want)
	}
}

// P11.1: each error, and the first of those that are at hand at once; the folder is as it was.
func TestDoErrors(t *testing.T) {
	long := strings.Repeat("x", 33)
	f := of(list("b", 2, "a", 1, "a b", 4, "", 5, long, 7), create("c", 3), rename("c", "b"), create("e", 6), remove("e"))
	for _, c := range []struct {
		c   api.Change
		err api.Errno
	}{
		{create("a", 9), api.ErrTwice}, {create("b", 9), api.ErrTwice}, {create("a", 1), api.ErrTwice}, {api.Change{Kind: api.ChCreate, Name: "a", To: "f", Id: 9}, api.ErrTwice},
		{create("c d", 9), api.ErrName}, {create("c/d", 9), api.ErrName}, {create(long+"y", 9), api.ErrName}, {create("\xff", 9), api.ErrName}, {create("é", 9), api.ErrName}, {create("\u212a", 9), api.ErrName}, {create("f\x00", 9), api.ErrName}, {create("f\n", 9), api.ErrName},
		// The name is there, but isn't valid.
		{create("a b", 9), api.ErrName}, {create("", 9), api.ErrName}, {create(long, 9), api.ErrName}, {create("a b", 4), api.ErrName}, {api.Change{Kind: api.ChCreate, To: "f", Id: 9}, api.ErrName},
		{rename("c", "d"), api.ErrNone}, {rename("e", "d"), api.ErrNone}, {rename("f", "a"), api.ErrNone}, {rename("f", "f"), api.ErrNone}, {rename("A", "d"), api.ErrNone}, {rename("c d", "d"), api.ErrNone}, {rename("a/b", "d"), api.ErrNone}, {rename(long+"y", "d"), api.ErrNone},
		// Neither is the one there, nor the other one valid.
		{rename("c", ""), api.ErrNone}, {rename("f", "a b"), api.ErrNone}, {rename("f", long), api.ErrNone}, {rename("c d", "c d"), api.ErrNone}, {rename("c/d", "/"), api.ErrNone}, {rename("e", "\xff"), api.ErrNone},
		{rename("b", ""), api.ErrName}, {rename("a", "c d"), api.ErrName}, {rename("a", "a b"), api.ErrName}, {rename("a", "a/"), api.ErrName}, {rename("a", long), api.ErrName}, {rename("a", "é"), api.ErrName}, {rename("a", "\u212a"), api.ErrName}, {api.Change{Kind: api.ChRename, Name: "a", Id: 9}, api.ErrName},
		{rename("a b", "a b"), api.ErrName}, {rename("", ""), api.ErrName}, {rename(long, long), api.ErrName}, {rename("", "a b"), api.ErrName},
		{remove("c"), api.ErrNone}, {remove("e"), api.ErrNone}, {remove("f"), api.ErrNone}, {remove("B"), api.ErrNone}, {remove("c d"), api.ErrNone}, {remove(long + "y"), api.ErrNone}, {remove("\xff"), api.ErrNone}, {api.Change{Kind: api.ChRemove, Name: "e", To: "a", Id: 1}, api.ErrNone},
	} {
		checkFails(t, f, c.c, c.err)
	}
	for _, kind := range otherKinds() {
		for _, s := range []string{"", "a", "f", "a b", "c d", long} {
			for _, to := range []string{"", "a", "f", "a b", "c d", s} {
				checkFails(t, f, api.Change{Kind: kind, Name: s, To: to, Id: 1}, api.ErrArg)
				checkFails(t, api.Folder{}, api.Change{Kind: kind, Name: s, To: to}, api.ErrArg)
			}
		}
	}
	for _, empty := range []api.Folder{{}, {Lasts: []api.Named{}, Pending: []api.Change{}}} {
		for _, s := range []string{"", "a", "a b"} {
			checkFails(t, empty, remove(s), api.ErrNone)
			checkFails(t, empty, rename(s, s), api.ErrNone)
			checkFails(t, empty, rename(s, ""), api.ErrNone)
		}
		checkFails(t, empty, create("", 1), api.ErrName)
		checkFails(t, empty, create("a b", 1), api.ErrName)
		checkDone(t, empty, create("a", 1), list("a", 1))
	}
}

// P11.1: it is the current names that a change is held against, not the durable ones, nor those in between.
func TestDoHoldsCurrentNames(t *testing.T) {
	l := list("a", 1, "b", 2)
	checkFails(t, of(l), create("a", 3), api.ErrTwice)
	checkDone(t, of(l, remove("a")), create("a", 3), list("a", 3, "b", 2))
	checkDone(t, of(l, rename("a", "c")), create("a", 3), list("a", 3, "b", 2, "c", 1))
	checkFails(t, of(l, remove("a"), create("a", 4)), create("a", 3), api.ErrTwice)
	checkFails(t, of(l, rename("a", "c")), create("c", 3), api.ErrTwice)
	checkFails(t, of(l, rename("a", "b")), create("b", 3), api.ErrTwice)
	checkDone(t, of(l, rename("a", "b")), create("a", 3), list("a", 3, "b", 1))
	checkFails(t, of(l, remove("a")), remove("a"), api.ErrNone)
	checkFails(t, of(l, remove("a")), rename("a", "c"), api.ErrNone)
	checkFails(t, of(l, rename("a", "c")), rename("a", "b"), api.ErrNone)
	checkFails(t, of(l, rename("a", "b")), remove("a"), api.ErrNone)
	checkDone(t, of(l, rename("a", "b")), remove("b"), nil)
	checkDone(t, of(l, create("c", 3)), rename("c", "a"), list("a", 3, "b", 2))
	checkFails(t, of(l, create("c", 3), remove("c")), remove("c"), api.ErrNone)
	checkDone(t, of(list("a", 1, "a", 2), remove("a")), create("a", 3), list("a", 3))
	checkFails(t, of(list("a", 1, "a", 2), remove("a")), remove("a"), api.ErrNone)
	checkDone(t, of(l, rename("c", "d"), api.Change{Kind: 4, Name: "c", Id: 9}), create("c", 3), list("a", 1, "b", 2, "c", 3))
}

// P11.1: which names a creation and a rename take, by lengths and by single bytes.
func TestDoTakesDiskNames(t *testing.T) {
	l := list("a", 1)
	for size := range 70 {
		s := strings.Repeat("x", size)
		if size >= 1 && size <= 32 {
			checkDone(t, of(l), create(s, 2), list("a", 1, s, 2))
			checkDone(t, of(l), rename("a", s), list(s, 1))
		} else {
			checkFails(t, of(l), create(s, 2), api.ErrName)
			checkFails(t, of(l), rename("a", s), api.ErrName)
		}
	}
	for c := range 256 {
		for _, s := range []string{string([]byte{byte(c)}), string([]byte{'b', byte(c)}), string([]byte{byte(c), 'b'})} {
			if s == "a" {
				continue
			}
			if c >= 33 && c <= 126 && c != '/' {
				checkDone(t, of(l), create(s, 2), ordered(list("a", 1, s, 2)))
				checkDone(t, of(l), rename("a", s), list(s, 1))
			} else {
				checkFails(t, of(l), create(s, 2), api.ErrName)
				checkFails(t, of(l), rename("a", s), api.ErrName)
			}
		}
	}
}

// P11.1: a Sync makes durable just what is current, in order and each name once, with nothing pending.
func TestSync(t *testing.T) {
	for _, f := range folders() {
		checkFolder(t, "a Sync", f, Sync(f), api.Folder{Lasts: left(f, len(f.Pending))})
	}
	f := Sync(of(list("b", 2, "a", 1), create("c", 3), rename("c", "b"), remove("a")))
	if len(f.Lasts) != 1 || f.Lasts[0] != (api.Named{Name: "b", Id: 3}) || len(f.Pending) != 0 {
		t.Errorf("behind a Sync the folder is %s", told(f))
	}
	checkFolder(t, "a Sync", api.Folder{}, Sync(api.Folder{}), api.Folder{})
}

// P11.2: the names behind each number of changes, and none more or fewer than there are.
func TestCrash(t *testing.T) {
	f := of(list("b", 2, "a", 1), create("c", 3), rename("c", "b"), remove("a"))
	for _, c := range []struct {
		n    int
		want []api.Named
	}{
		{math.MinInt, list("a", 1, "b", 2)}, {math.MinInt32, list("a", 1, "b", 2)}, {-2, list("a", 1, "b", 2)}, {-1, list("a", 1, "b", 2)}, {0, list("a", 1, "b", 2)},
		{1, list("a", 1, "b", 2, "c", 3)}, {2, list("a", 1, "b", 3)}, {3, list("b", 3)},
		{4, list("b", 3)}, {255, list("b", 3)}, {math.MaxInt32, list("b", 3)}, {math.MaxInt - 1, list("b", 3)}, {math.MaxInt, list("b", 3)},
	} {
		checkCrash(t, f, c.n, c.want)
	}
	g := of(list("a", 1), create("b", 2), remove("a"))
	checkCrash(t, g, 0, list("a", 1))
	checkCrash(t, g, 1, list("a", 1, "b", 2))
	checkCrash(t, g, 2, list("b", 2))
	checkIds(t, g, 1, 2)
}

// P11.2: a change that changes nothing or isn't of the three kinds is one of the first n even so.
func TestCrashCountsEachChange(t *testing.T) {
	for _, c := range []api.Change{{}, {Kind: 4, Name: "a", To: "b", Id: 9}, {Kind: -1, Name: "a"}, {Kind: math.MinInt, Name: "c"}, {Kind: math.MaxInt, Name: "a", To: "c"}, remove("x"), rename("x", "a"), rename("a", "a"), rename("x", "x")} {
		f := of(list("a", 1), c, create("b", 2), c, remove("a"), c)
		for n, want := range [][]api.Named{list("a", 1), list("a", 1), list("a", 1, "b", 2), list("a", 1, "b", 2), list("b", 2), list("b", 2), list("b", 2)} {
			checkCrash(t, f, n, want)
		}
		checkIds(t, f, 1, 2)
	}
}

// P11.2: with nothing pending, a crash leaves the durable names, and a folder without names is left as one, whatever n is.
func TestCrashOfNone(t *testing.T) {
	for _, n := range counts(0) {
		for _, pending := range [][]api.Change{nil, {}} {
			for _, lasts := range [][]api.Named{nil, {}} {
				checkCrash(t, api.Folder{Lasts: lasts, Pending: pending}, n, nil)
			}
			checkCrash(t, api.Folder{Lasts: list("b", 2, "a", 1, "b", 3, "", 4), Pending: pending}, n, list("", 4, "a", 1, "b", 2))
		}
	}
	for _, f := range folders() {
		for _, n := range []int{0, -1, math.MinInt} {
			checkCrash(t, f, n, left(f, 0))
		}
		for _, n := range []int{len(f.Pending), len(f.Pending) + 1, math.MaxInt} {
			checkCrash(t, f, n, left(f, len(f.Pending)))
		}
	}
}

// P11.2: the numbers of all files that have a name at some time, ascending and each once.
func TestIds(t *testing.T) {
	checkIds(t, api.Folder{})
	checkIds(t, api.Folder{Lasts: []api.Named{}, Pending: []api.Change{}})
	l := list("a", 1, "b", 2)
	example := of(l, create("c", 3), rename("c", "b"), remove("a"))
	checkIds(t, example, 1, 2, 3)
	checkIds(t, Sync(example), 3)
	checkIds(t, of(l), 1, 2)
	checkIds(t, of(list("a", 2, "b", 1)), 1, 2)
	checkIds(t, of(l, remove("a"), remove("b")), 1, 2)
	checkIds(t, of(l, rename("a", "b")), 1, 2)
	checkIds(t, of(l, rename("a", "c"), rename("b", "c"), remove("c")), 1, 2)
	checkIds(t, of(nil, create("a", 7), remove("a")), 7)
	checkIds(t, of(nil, create("a", 7), remove("a"), create("a", 6)), 6, 7)
	checkIds(t, of(nil, create("a", 7), create("a", 5)), 5, 7)
	checkIds(t, of(l, create("a", 0), create("b", -1)), -1, 0, 1, 2)
	checkIds(t, of(list("b", 1, "a", 1), create("c", 1), create("d", 1)), 1)
	checkIds(t, of(list("a", 3, "b", 1, "c", 3, "d", 2, "e", 1)), 1, 2, 3)
	checkIds(t, of(list("a", math.MaxInt, "b", math.MinInt, "c", 0), create("d", -1), create("e", math.MaxInt-1), create("f", math.MinInt)), math.MinInt, -1, 0, math.MaxInt-1, math.MaxInt)
	checkIds(t, of(list("a", 10, "b", 9, "c", -10, "d", -9)), -10, -9, 9, 10)
}

// P11.2: a number of which only a later occurrence, a rename, a removal or a change of another kind tells is none of a file with a name.
func TestIdsOfNone(t *testing.T) {
	checkIds(t, of(list("a", 1, "a", 2)), 1)
	checkIds(t, of(list("a", 1, "a", 2), remove("a")), 1)
	checkIds(t, of(list("a", 1, "a", 2, "b", 2), remove("a")), 1, 2)
	checkIds(t, of(list("b", 3, "a", 2, "b", 1, "a", 4), rename("a", "b")), 2, 3)
	checkIds(t, of(list("a", 1), api.Change{Kind: api.ChRename, Name: "a", To: "b", Id: 9}, api.Change{Kind: api.ChRemove, Name: "b", To: "b", Id: 8}), 1)
	checkIds(t, of(nil, api.Change{Kind: api.ChRename, Name: "a", To: "b", Id: 9}, api.Change{Kind: api.ChRemove, Name: "b", Id: 8}))
	for _, kind := range otherKinds() {
		checkIds(t, of(list("a", 1), api.Change{Kind: kind, Name: "b", Id: 9}), 1)
		checkIds(t, of(nil, api.Change{Kind: kind, Name: "b", Id: 9}))
	}
	checkIds(t, of(nil, create("", 1), create("a/b", 2), create(strings.Repeat("x", 33), 3), create("", 4)), 1, 2, 3, 4)
}

// P11.1 and P11.2: every row of up to three of some small changes, on several durable names, with each further change and each n.
func TestRowsOfChanges(t *testing.T) {
	further := append(smallChanges(), create("d e", 5), create("d", 5), rename("b", "d"), rename("b", ""), rename("a", "a"), remove("d"), api.Change{Kind: -1, Name: "a", To: "b", Id: 5})
	for _, f := range smallFolders(3) {
		now := left(f, len(f.Pending))
		checkNow(t, f, now)
		checkFolder(t, "a Sync", f, Sync(f), api.Folder{Lasts: now})
		for _, n := range counts(len(f.Pending)) {
			checkCrash(t, f, n, left(f, n))
		}
		checkIds(t, f, ever(f)...)
		for _, c := range further {
			if err := wrong(now, c); err != api.OK {
				checkFails(t, f, c, err)
			} else {
				checkDone(t, f, c, left(with(f, c), len(f.Pending)+1))
			}
		}
	}
}

// P11.3: behind a Sync, a crash loses nothing, whatever n is, and the files are those that have a name.
func TestCrashBehindSync(t *testing.T) {
	for _, f := range slices.Concat(folders(), smallFolders(2)) {
		now, before := left(f, len(f.Pending)), Ids(f)
		s := Sync(f)
		for _, n := range append(counts(0), counts(len(f.Pending))...) {
			checkCrash(t, s, n, now)
		}
		checkFolder(t, "a Sync", s, Sync(s), s)
		checkNow(t, s, now)
		checkIds(t, f, before...)
		checkIds(t, s, numbers(now)...)
		checkAmong(t, f, Ids(s), before)
	}
}

// P11.3: behind a Sync and one Do, a crash leaves the synced names without that change or with it, and nothing else.
func TestCrashBehindSyncAndDo(t *testing.T) {
	for _, f := range slices.Concat(folders(), smallFolders(2)) {
		now := left(f, len(f.Pending))
		for _, c := range smallChanges() {
			s := Sync(f)
			y, err := Do(s, c)
			if want := wrong(now, c); err != want {
				t.Fatalf("%s behind a Sync of %s: error %d, want %d", toldChange(c), told(f), err, want)
			}
			ids := numbers(now)
			if err == api.OK && c.Kind == api.ChCreate {
				ids = ascendingOnce(append(ids, c.Id))
			}
			checkIds(t, y, ids...)
			for _, n := range counts(1) {
				want := now
				if n >= 1 {
					want = left(y, 1)
				}
				checkCrash(t, y, n, want)
				checkAmong(t, y, Ids(Crash(y, n)), ids)
			}
			checkIds(t, s, numbers(now)...)
		}
	}
}

// P11.3: a crash behind a crash loses nothing more; the files of a crash are among those that Ids told before, and each of these is left by some crash.
func TestCrashBehindCrash(t *testing.T) {
	for _, f := range slices.Concat(folders(), smallFolders(2)) {
		before := Ids(f)
		var all []int
		for n := range len(f.Pending) + 1 {
			all = append(all, Ids(Crash(f, n))...)
		}
		for _, n := range counts(len(f.Pending)) {
			y := Crash(f, n)
			checkIds(t, y, numbers(y.Lasts)...)
			checkAmong(t, f, Ids(y), before)
			for _, m := range counts(len(f.Pending)) {
				checkFolder(t, "a second crash", y, Crash(y, m), y)
			}
			checkFolder(t, "a Sync", y, Sync(y), y)
			checkNow(t, y, y.Lasts)
		}
		if got := ascendingOnce(all); !slices.Equal(got, before) {
			t.Fatalf("crashes of %s leave the files %v, and Ids tells %v", told(f), got, before)
		}
	}
}

// P11.1 to P11.3: rows of calls, each of which is done to what the one before left, held against names that are kept beside.
func TestRowsOfCalls(t *testing.T) {
	calls := []string{"create", "create again", "rename", "rename back", "remove", "sync", "crash", "crash by 1", "crash by all"}
	for _, row := range rows(calls, 5) {
		f, durable := of(list("a", 1)), list("a", 1)
		var states [][]api.Named
		now := func() []api.Named { return append([][]api.Named{durable}, states...)[len(states)] }
		for i, call := range row {
			c, again := api.Change{}, slices.Clone(now())
			switch call {
			case "create":
				c = create("b", i+2)
			case "create again":
				c = create("a", i+2)
			case "rename":
				c = rename("a", "b")
			case "rename back":
				c = rename("b", "a")
			case "remove":
				c = remove("a")
			case "sync":
				f, durable, states = Sync(f), again, nil
			case "crash":
				f, states = Crash(f, 0), nil
			case "crash by 1":
				if f = Crash(f, 1); len(states) > 0 {
					durable = states[0]
				}
				states = nil
			case "crash by all":
				f, durable, states = Crash(f, len(f.Pending)), again, nil
			}
			if c.Kind != 0 {
				g, err := Do(f, c)
				if want := wrong(again, c); err != want {
					t.Fatalf("behind %q, %s answers %d, want %d", row[:i], toldChange(c), err, want)
				}
				if err == api.OK {
					states = append(states, apply(again, c))
				}
				f = g
			}
			if !slices.Equal(Now(f), now()) || !slices.Equal(Crash(f, -1).Lasts, durable) || len(f.Pending) != len(states) {
				t.Fatalf("behind %q the folder is %s, want %v", row[:i+1], told(f), now())
			}
			files := numbers(durable)
			for _, s := range states {
				files = append(files, numbers(s)...)
			}
			checkIds(t, f, ascendingOnce(files)...)
		}
	}
}

// R3: what comes in is as it was behind each call, with the memory behind it, and an answer is new memory: whatever is done to it, what came in stays, and whatever is done to that, the answer stays.
func TestArgumentsStay(t *testing.T) {
	do := func(c api.Change) func(api.Folder) (api.Folder, []int) {
		return func(f api.Folder) (api.Folder, []int) { y, err := Do(f, c); return y, []int{int(err)} }
	}
	for name, call := range map[string]func(api.Folder) (api.Folder, []int){
		"Now":            func(f api.Folder) (api.Folder, []int) { return api.Folder{Lasts: Now(f)}, nil },
		"Find":           func(f api.Folder) (api.Folder, []int) { id, _ := Find(f, "a"); return api.Folder{}, []int{id} },
		"Do a creation":  do(create("new", 9)),
		"Do a rename":    do(rename("a", "new")),
		"Do an exchange": do(rename("a", "b")),
		"Do a removal":   do(remove("a")),
		"Do nothing":     do(api.Change{Kind: 4}),
		"Do a fault":     do(create("a b", 9)),
		"Do what is not": do(remove("none")),
		"Sync":           func(f api.Folder) (api.Folder, []int) { return Sync(f), nil },
		"Crash by none":  func(f api.Folder) (api.Folder, []int) { return Crash(f, 0), nil },
		"Crash by one":   func(f api.Folder) (api.Folder, []int) { return Crash(f, 1), nil },
		"Crash by all":   func(f api.Folder) (api.Folder, []int) { return Crash(f, math.MaxInt), nil },
		"Ids":            func(f api.Folder) (api.Folder, []int) { return api.Folder{}, Ids(f) },
	} {
		for _, f := range slices.Concat(folders(), smallFolders(2)) {
			checkStays(t, name, call, f)
		}
	}
}

// R3: folders that are made of one do not meddle with each other, even where that one has memory behind its pending changes.
func TestFoldersOfOneFolder(t *testing.T) {
	f := spare(of(list("a", 1), create("b", 2)))
	done := func(f api.Folder, c api.Change) api.Folder {
		y, err := Do(f, c)
		if err != api.OK {
			t.Fatalf("%s on %s: error %d", toldChange(c), told(f), err)
		}
		return y
	}
	a, b, c := done(f, create("c", 3)), done(f, create("d", 4)), done(f, remove("a"))
	d, e := done(a, rename("c", "x")), done(a, rename("c", "y"))
	refused, _ := Do(f, create("a", 9))
	g := done(refused, create("e", 5))
	for _, one := range []struct {
		f    api.Folder
		want []api.Named
	}{
		{f, list("a", 1, "b", 2)}, {a, list("a", 1, "b", 2, "c", 3)}, {b, list("a", 1, "b", 2, "d", 4)}, {c, list("b", 2)},
		{d, list("a", 1, "b", 2, "x", 3)}, {e, list("a", 1, "b", 2, "y", 3)}, {refused, list("a", 1, "b", 2)}, {g, list("a", 1, "b", 2, "e", 5)},
	} {
		checkNow(t, one.f, one.want)
	}
}

// folders answers folders of all kinds: ordinary ones, empty ones, and such with names and changes that no call would take.
func folders() []api.Folder {
	long := strings.Repeat("x", 33)
	odd := list("b", 5, "a b", 4, "", 3, "a", 2, "b", 1, "/", 0, "\xff", -1, long, math.MaxInt, "", 9, "c", math.MinInt)
	wrong := []api.Change{
		{}, create("a", 7), create("", 8), create(long, -8), rename("", "a b"), rename("a", "a"), rename("none", "b"), rename("b", ""), remove("none"), remove("\xff"), {Kind: api.ChRemove, To: "a", Id: 1},
		{Kind: -1, Name: "a", To: "b", Id: 77}, {Kind: 4, Name: "a", To: "b", Id: 77}, {Kind: math.MinInt, Name: "a"}, {Kind: math.MaxInt, Name: "a", To: "c"}, create("c", math.MaxInt), rename("c", "a"), remove("c"), create("c", 0),
	}
	var many []api.Named
	var moves []api.Change
	for i := range 300 {
		many = append(many, api.Named{Name: fmt.Sprintf("%d", i), Id: i % 100})
		moves = append(moves, create(fmt.Sprintf("n%d", i), 1000-i), remove(fmt.Sprintf("%d", 299-i)))
	}
	return []api.Folder{
		{}, {Lasts: []api.Named{}, Pending: []api.Change{}}, {Pending: []api.Change{}}, {Lasts: []api.Named{}},
		of(list("a", 1)), of(list("a", 1, "b", 2)), of(list("b", 2, "a", 1)), of(list("a", 1, "a", 2)), of(list("a", 1, "b", 1)), of(odd), of(many),
		of(nil, create("a", 1)), of(nil, create("a", 1), remove("a")), of(nil, create("a", 1), remove("a"), create("a", 2)), of(nil, remove("a"), rename("a", "b")), of(nil, create("a", 1), create("a", 2)),
		of(list("a", 1, "b", 2), create("c", 3), rename("c", "b"), remove("a")), of(list("a", 1, "b", 2), rename("a", "t"), rename("b", "a"), rename("t", "b")), of(list("a", 1, "b", 2), remove("a"), remove("b")),
		of(nil, wrong...), of(list("a", 1, "b", 2), wrong...), of(odd, wrong...), of(odd, append(slices.Clone(wrong), wrong...)...), of(many, moves...), of(nil, moves...),
	}
}

// smallFolders answers folders of several small lists of durable names with all rows of up to n of some small changes pending.
func smallFolders(n int) []api.Folder {
	var out []api.Folder
	for _, l := range rows(smallChanges(), n) {
		for _, lasts := range [][]api.Named{nil, list("a", 1), list("b", 2, "a", 1), list("b", 3, "a", 1, "b", 2, "c", 1)} {
			out = append(out, api.Folder{Lasts: lasts, Pending: l})
		}
	}
	return out
}

// smallChanges answers changes of three names, and such as are not valid or change nothing.
func smallChanges() []api.Change {
	return []api.Change{
		{}, create("a", 3), create("b", 1), create("c", -4), rename("a", "b"), rename("b", "a"), rename("a", "c"), rename("c", "b"), rename("b", "b"), remove("a"), remove("b"), create("", 2), rename("", "a"), {Kind: 4, Name: "a", To: "b", Id: 9},
	}
}

// rows answers all rows of up to n of the elements, the shorter ones first.
func rows[T any](elements []T, n int) [][]T {
	out := [][]T{nil}
	last := out
	for range n {
		var next [][]T
		for _, row := range last {
			for _, e := range elements {
				next = append(next, append(slices.Clone(row), e))
			}
		}
		out = append(out, next...)
		last = next
	}
	return out
}

// counts answers numbers of changes around and far away from none and from n.
func counts(n int) []int {
	return []int{math.MinInt, math.MinInt + 1, math.MinInt32, -n - 1, -n, -2, -1, 0, 1, n / 2, n - 1, n, n + 1, 2*n + 1, math.MaxInt32, math.MaxInt - 1, math.MaxInt}
}

// otherKinds answers kinds of which there is no change.
func otherKinds() []int {
	return []int{0, -1, 4, 5, -2, -3, 255, 256, 257, 1 << 16, 1 << 32, 1<<32 + 1, math.MinInt, math.MinInt + 1, math.MaxInt}
}

// left answers the names of f after its first n pending changes.
func left(f api.Folder, n int) []api.Named {
	var out []api.Named
	for _, x := range f.Lasts {
		if place(out, x.Name) < 0 {
			out = append(out, x)
		}
	}
	out = ordered(out)
	for i, c := range f.Pending {
		if i >= n {
			break
		}
		out = apply(out, c)
	}
	return out
}

// apply answers the names of l, which are in order, after a change.
func apply(l []api.Named, c api.Change) []api.Named {
	at := place(l, c.Name)
	var out []api.Named
	switch {
	case c.Kind == api.ChCreate:
		out = list(c.Name, c.Id)
	case c.Kind == api.ChRename && at >= 0 && c.Name != c.To:
		out = list(c.To, l[at].Id)
	case c.Kind == api.ChRemove:
	default:
		return slices.Clone(l)
	}
	for _, x := range l {
		if x.Name != c.Name && (c.Kind != api.ChRename || x.Name != c.To) {
			out = append(out, x)
		}
	}
	return ordered(out)
}

// place answers the first place of a name in l, or -1.
func place(l []api.Named, s string) int {
	for i, x := range l {
		if x.Name == s {
			return i
		}
	}
	return -1
}

// ordered answers l with the names in ascending order, found byte by byte.
func ordered(l []api.Named) []api.Named {
	out := slices.Clone(l)
	slices.SortFunc(out, func(x, y api.Named) int { return slices.Compare([]byte(x.Name), []byte(y.Name)) })
	return out
}

// ever answers the numbers of all files that have a name after some number of the first pending changes.
func ever(f api.Folder) []int {
	var out []int
	for n := range len(f.Pending) + 1 {
		out = append(out, numbers(left(f, n))...)
	}
	return ascendingOnce(out)
}

// numbers answers the numbers of files in l, ascending and each once.
func numbers(l []api.Named) []int {
	var out []int
	for _, x := range l {
		out = append(out, x.Id)
	}
	return ascendingOnce(out)
}

func ascendingOnce(l []int) []int {
	out := slices.Sorted(slices.Values(l))
	return slices.Compact(out)
}

// wrong answers the error of a change where there are the names of l.
func wrong(l []api.Named, c api.Change) api.Errno {
	there := place(l, c.Name) >= 0
	switch {
	case c.Kind != 1 && c.Kind != 2 && c.Kind != 3:
		return api.ErrArg
	case c.Kind == 1 && !valid(c.Name):
		return api.ErrName
	case c.Kind == 1 && there:
		return api.ErrTwice
	case c.Kind != 1 && !there:
		return api.ErrNone
	case c.Kind == 2 && !valid(c.To):
		return api.ErrName
	}
	return api.OK
}

// valid tells whether a disk takes a name.
func valid(s string) bool {
	for _, b := range []byte(s) {
		if b <= 32 || b >= 127 || b == '/' {
			return false
		}
	}
	return len(s) >= 1 && len(s) <= 32
}

// with answers f with one more pending change.
func with(f api.Folder, c api.Change) api.Folder {
	return api.Folder{Lasts: f.Lasts, Pending: append(slices.Clone(f.Pending), c)}
}

// of answers a folder.
func of(lasts []api.Named, pending ...api.Change) api.Folder {
	return api.Folder{Lasts: lasts, Pending: pending}
}

// list answers names and the numbers of their files, given in turns.
func list(l ...any) []api.Named {
	var out []api.Named
	for i := 0; i < len(l); i += 2 {
		out = append(out, api.Named{Name: l[i].(string), Id: l[i+1].(int)})
	}
	return out
}

func create(s string, id int) api.Change {
	return api.Change{Kind: api.ChCreate, Name: s, Id: id}
}

func rename(s, to string) api.Change {
	return api.Change{Kind: api.ChRename, Name: s, To: to}
}

func remove(s string) api.Change { return api.Change{Kind: api.ChRemove, Name: s} }

// same tells whether two folders are the same, where nil and empty are.
func same(x, y api.Folder) bool {
	return slices.Equal(x.Lasts, y.Lasts) && slices.Equal(x.Pending, y.Pending)
}

// whole answers a copy of f with the memory behind each of its slices.
func whole(f api.Folder) api.Folder {
	return api.Folder{Lasts: slices.Clone(f.Lasts[:cap(f.Lasts)]), Pending: slices.Clone(f.Pending[:cap(f.Pending)])}
}

// spare answers a copy of f with other things in the memory behind each of its slices.
func spare(f api.Folder) api.Folder {
	l := append(slices.Clone(f.Lasts), list("spare", 1, "a", 99, "more", 2)...)[:len(f.Lasts)]
	p := append(slices.Clone(f.Pending), create("spare", 1), remove("a"), rename("b", "spare"))[:len(f.Pending)]
	return api.Folder{Lasts: l, Pending: p}
}

// spoil changes all names, changes and numbers, and what is behind them.
func spoil(f api.Folder, ids []int) {
	for i, x := range f.Lasts[:cap(f.Lasts)] {
		f.Lasts[:cap(f.Lasts)][i] = api.Named{Name: x.Name + "!", Id: x.Id + 1}
	}
	for i, c := range f.Pending[:cap(f.Pending)] {
		f.Pending[:cap(f.Pending)][i] = api.Change{Kind: c.Kind + 1, Name: c.Name + "!", To: c.To + "!", Id: c.Id + 1}
	}
	for i := range ids[:cap(ids)] {
		ids[:cap(ids)][i]++
	}
}

func checkStays(t *testing.T, name string, call func(api.Folder) (api.Folder, []int), f api.Folder) {
	t.Helper()
	f = spare(f)
	was := whole(f)
	y, ids := call(f)
	if !same(whole(f), was) {
		t.Fatalf("%s changed what it was given: %s", name, told(f))
	}
	want, wantIds := api.Folder{Lasts: slices.Clone(y.Lasts), Pending: slices.Clone(y.Pending)}, slices.Clone(ids)
	spoil(y, ids)
	if !same(whole(f), was) {
		t.Fatalf("the answer of %s shares memory with what it was given: %s", name, told(f))
	}
	y, ids = call(f)
	spoil(f, nil)
	if !same(y, want) || !slices.Equal(ids, wantIds) {
		t.Fatalf("%s answers %s, %v and then %s, %v", name, told(want), wantIds, told(y), ids)
	}
}

// checkNow holds the current names of f against those that are wanted, and finds each of them, and no other one.
func checkNow(t *testing.T, f api.Folder, want []api.Named) {
	t.Helper()
	checkNames(t, f, Now(f), want)
	for _, x := range want {
		checkFind(t, f, x.Name, x.Id, true)
	}
	others := []string{"", "a", "b", "none", "a\x00"}
	for _, x := range f.Lasts {
		others = append(others, x.Name)
	}
	for _, c := range f.Pending {
		others = append(others, c.Name, c.To)
	}
	for _, s := range others {
		if place(want, s) < 0 {
			checkFind(t, f, s, 0, false)
		}
	}
}

func checkNames(t *testing.T, f api.Folder, got, want []api.Named) {
	t.Helper()
	if !slices.Equal(got, want) {
		t.Errorf("the names of %s are %s, want %s", told(f), toldNames(got), toldNames(want))
	}
}

func checkFind(t *testing.T, f api.Folder, s string, id int, found bool) {
	t.Helper()
	if got, ok := Find(f, s); got != id || ok != found {
		t.Errorf("%q in %s is %d, %t, want %d, %t", s, told(f), got, ok, id, found)
	}
}

// checkDone holds f with a change done against the change that is then pending, and the names that are then current.
func checkDone(t *testing.T, f api.Folder, c api.Change, now []api.Named) {
	t.Helper()
	got, err := Do(f, c)
	if err != api.OK || !same(got, with(f, c)) {
		t.Errorf("%s on %s answers %s, error %d", toldChange(c), told(f), told(got), err)
	}
	checkNames(t, got, Now(got), now)
}

// checkFails tells whether a change can't be done, and f stays as it is.
func checkFails(t *testing.T, f api.Folder, c api.Change, want api.Errno) {
	t.Helper()
	if got, err := Do(f, c); err != want || !same(got, f) {
		t.Errorf("%s on %s answers %s, error %d, want error %d", toldChange(c), told(f), told(got), err, want)
	}
}

// checkCrash holds what a crash leaves against the names that are then durable, with nothing pending.
func checkCrash(t *testing.T, f api.Folder, n int, want []api.Named) {
	t.Helper()
	checkFolder(t, fmt.Sprintf("a crash by %d", n), f, Crash(f, n), api.Folder{Lasts: want})
}

func checkFolder(t *testing.T, what string, f, got, want api.Folder) {
	t.Helper()
	if !same(got, want) {
		t.Errorf("%s is %s behind %s, want %s", told(f), told(got), what, told(want))
	}
}

func checkIds(t *testing.T, f api.Folder, want ...int) {
	t.Helper()
	if got := Ids(f); !slices.Equal(got, want) {
		t.Errorf("the files of %s are %v, want %v", told(f), got, want)
	}
}

// checkAmong tells whether all files of after are among those of before.
func checkAmong(t *testing.T, f api.Folder, after, before []int) {
	t.Helper()
	for _, id := range after {
		if !slices.Contains(before, id) {
			t.Errorf("the file %d of %s was not among %v", id, told(f), before)
		}
	}
}

// told answers a folder as a text, short enough to be shown.
func told(f api.Folder) string {
	s := toldNames(f.Lasts)
	for _, c := range f.Pending[:min(len(f.Pending), 9)] {
		s += "; " + toldChange(c)
	}
	return fmt.Sprintf("(%s; %d pending)", s, len(f.Pending))
}

// toldNames answers names as a text, or their beginning and how many there are.
func toldNames(l []api.Named) string {
	if len(l) <= 20 {
		return fmt.Sprintf("%+v", l)
	}
	return fmt.Sprintf("%+v.. (%d names)", l[:20], len(l))
}

func toldChange(c api.Change) string {
	return fmt.Sprintf("kind %d of %q to %q, file %d", c.Kind, c.Name, c.To, c.Id)
}
