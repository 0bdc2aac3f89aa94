package disk

import (
	"fmt"
	"math"
	"math/rand/v2"
	"slices"
	"strings"
	"testing"

	"stillage/api"
)

// roomy is more than most tests use.
var roomy = api.Limits{Bytes: 1 << 24, Files: 1000}

// The chapter's examples.
func TestExamples(t *testing.T) {
	d := Load(roomy, files("a", "abc", "a", "z", "x y", ""))
	play(t, d, "lasts = a=abc")
	play(t, d, "fuse 2; append a d; create a = !7; sync a = !11; syncdir = !11; calls = 2")
	d = New(api.Limits{Bytes: 10, Files: 2})
	play(t, d, "create a; append a abcd; sync a; create b; append b xyz; create c = !8; append a 1234 = !9; append z = !6; free = 3 0")
	play(t, d, "cut a 1; append a Z; read a 0 2 = aZ; read a 1 2 = !20")
	play(t, d, "remove b; crash 2 0 255 1; lasts = a=aZcd b=x; sees = a=aZcd b=x")
	play(t, New(roomy), "create a; append a abc; crash; names =; lasts =")
}

// P12.1: a disk with whatever limits has no files, no calls and no fuse, and holds what is done to it against its own limits.
func TestNew(t *testing.T) {
	for _, bytes := range limits() {
		for _, count := range limits() {
			l := api.Limits{Bytes: bytes, Files: count}
			for how, d := range map[string]*Disk{"New": New(l), "Load of nil": Load(l, nil), "Load of none": Load(l, []api.File{}), "Load of what can't be": Load(l, files("", "a", "a b", "c"))} {
				b, f := lefts(l, 0, 0)
				if got, want := observed(d), fmt.Sprintf("0 calls, %d, %d left; current: ; durable: ", b, f); got != want {
					t.Fatalf("%s with %+v: %s, want %s", how, l, got, want)
				}
				checkLimits(t, d, l)
			}
		}
	}
}

// checkLimits fills a disk without files up to its limits, where they are small.
func checkLimits(t *testing.T, d *Disk, l api.Limits) {
	t.Helper()
	for n := range 9 {
		want := "!8"
		if n < l.Files {
			want = ""
		}
		if got := ask(d, fmt.Sprintf("create f%d", n)); got != want {
			t.Fatalf("file %d with %+v: %q", n+1, l, got)
		}
		b, f := lefts(l, 0, min(n+1, max(l.Files, 0)))
		play(t, d, fmt.Sprintf("free = %d %d", b, f))
	}
	for n := 0; n < 9 && l.Files > 0; n++ {
		want := "!9"
		if n < l.Bytes {
			want = ""
		}
		if got := ask(d, "append f0 x"); got != want {
			t.Fatalf("byte %d with %+v: %q", n+1, l, got)
		}
		b, f := lefts(l, min(n+1, max(l.Bytes, 0)), min(9, l.Files))
		play(t, d, fmt.Sprintf("free = %d %d", b, f))
	}
	for range 300 {
		play(t, d, "remove z = !6")
	}
}

// P12.1: which files a Load keeps, and that they are durable, whatever a crash takes.
func TestLoad(t *testing.T) {
	long, x32, x33 := strings.Repeat("q", most+1), strings.Repeat("x", 32), strings.Repeat("x", 33)
	for _, c := range []struct {
		files []api.File
		want  string
	}{
		{nil, ""}, {[]api.File{}, ""},
		{files("a", "abc"), "a=abc"}, {files("b", "2", "c", "3", "a", "1"), "a=1 b=2 c=3"}, {files("a", "same", "b", "same"), "a=same b=same"},
		{[]api.File{{Name: "a"}}, "a="}, {[]api.File{{Name: "a", Data: []byte{}}}, "a="}, {[]api.File{{Name: "b", Data: []byte{0}}, {Name: "a"}}, `a= b=\x00`},
		{files("a", "abc", "a", "z"), "a=abc"}, {files("a", "1", "a", "2", "a", "3"), "a=1"}, {files("a", "1", "b", "2", "a", "", "b", "4", "a", "5"), "a=1 b=2"}, {files("a", "", "a", "z"), "a="}, {files("a", "1", "a", "1"), "a=1"},
		{files("b", "1", "a", "2", "b", "3", "a", "4"), "a=2 b=1"},
		{files("", "1"), ""}, {files("a b", "1"), ""}, {files("a/b", "1"), ""}, {files(x33, "1"), ""}, {files("\x7f", "1"), ""}, {files("é", "1"), ""}, {files("\x00", "1"), ""}, {files("a\n", "1"), ""}, {files(" a", "1", "/", "2", "\xff", "3"), ""},
		{files("", "1", "a", "2", "a b", "3", "b", "4", x33, "5"), "a=2 b=4"}, {files("a b", "1", "a b", "2"), ""}, {files(x33, "1", x32, "2"), x32 + "=2"},
		{files("A.B", "1", "-", "2", "~", "3", "!", "4", "seg-00000001", "5", "point.tmp", "6"), "!=4 -=2 A.B=1 point.tmp=6 seg-00000001=5 ~=3"},
		{files("aa", "1", "a", "2", "A", "3", "10", "4", "9", "5"), "10=4 9=5 A=3 a=2 aa=1"},
		{files("a", long), ""}, {files("a", long[1:]), "a=" + short([]byte(long[1:]))}, {files("a", long[2:]), "a=" + short([]byte(long[2:]))}, {files("a", long+long), ""},
		// A name that was left out for its length is free for the next one.
		{files("a", long, "a", "x", "a", "y"), "a=x"}, {files("a", long, "a", long, "b", "1", "a", "x", "a", long), "a=x b=1"}, {files("a", "x", "a", long, "a", "y"), "a=x"}, {files("a", long, "a", ""), "a="}, {files("a b", long, "a b", "x"), ""},
	} {
		for _, l := range []api.Limits{roomy, {}, {Bytes: 1, Files: 1}, {Bytes: -1, Files: -1}, {Bytes: math.MinInt, Files: math.MinInt}} {
			for _, choice := range choices() {
				d := Load(l, c.files)
				play(t, d, "calls = 0; sees = "+c.want+"; lasts = "+c.want)
				play(t, d, called(choice)+"; calls = 0; sees = "+c.want+"; lasts = "+c.want)
			}
		}
	}
}

// P12.1: which names a Load takes, by lengths and by single bytes.
func TestLoadTakesDiskNames(t *testing.T) {
	names := []string{}
	for size := range 70 {
		names = append(names, strings.Repeat("x", size))
	}
	for c := range 256 {
		names = append(names, string([]byte{byte(c)}), string([]byte{'b', byte(c)}), string([]byte{byte(c), 'b'}))
	}
	for _, s := range names {
		d := Load(roomy, files(s, "1", s, "2"))
		if got, e := d.Read(s, 0, 1); valid(s) != (e == api.OK) || valid(s) != (string(got) == "1") || valid(s) != (len(d.Image()) == 1) {
			t.Errorf("the file %q: %q, error %d", s, got, e)
		}
	}
}

// P12.1: a Load takes more than the limits leave; they hold for what comes then.
func TestLoadBeyondLimits(t *testing.T) {
	three := files("a", "abc", "b", "defg", "c", "hi")
	for _, c := range []struct {
		l    api.Limits
		text string
	}{
		{api.Limits{Bytes: 9, Files: 3}, "free = 0 0; create d = !8; append a x = !9; append a"},
		{api.Limits{Bytes: 10, Files: 4}, "free = 1 1; create d; append a x; append d x = !9; free = 0 0"},
		{api.Limits{Bytes: 8, Files: 2}, "free = 0 0; create d = !8; append a x = !9; append a; remove c; syncdir; free = 1 0; create d = !8; append a x; append a x = !9; remove b; syncdir; free = 4 1; create d"},
		{api.Limits{Bytes: 0, Files: 0}, "free = 0 0; create d = !8; append a x = !9; cut a 1; append a xy; append a x = !9; sync a; remove a; remove b; remove c; syncdir; free = 0 0; create d = !8"},
		{api.Limits{Bytes: -5, Files: -5}, "free = 0 0; create d = !8; append a x = !9; sees = a=abc b=defg c=hi"},
		{api.Limits{Bytes: math.MinInt, Files: math.MinInt}, "free = 0 0; create d = !8; append a x = !9; cut b 0; append b 1234; append b 5 = !9; sync b; free = 0 0; sees = a=abc b=1234 c=hi"},
		{api.Limits{Bytes: math.MinInt + 3, Files: math.MaxInt}, fmt.Sprintf("free = 0 %d; create d; append d x = !9", math.MaxInt-3)},
		{api.Limits{Bytes: math.MaxInt, Files: 1}, fmt.Sprintf("free = %d 0; create d = !8; append a x; free = %d 0", math.MaxInt-9, math.MaxInt-10)},
		{api.Limits{Bytes: 1, Files: 1}, "remove a; remove b; remove c; create d = !8; syncdir; create d; append d x; append d x = !9; create e = !8; free = 0 0"},
	} {
		play(t, Load(c.l, three), c.text)
	}
}

// P12.1: files are numbered in the order in which they were loaded, and then made; by these numbers a choice is dealt out.
func TestNumbers(t *testing.T) {
	appends := "append a xyz; append b xyz; append c xyz; "
	play(t, Load(roomy, files("c", "", "a", "", "b", "")), appends+"crash 0 1 2 3; lasts = a=xy b=xyz c=x")
	play(t, Load(roomy, files("b", "", "b", "2", "x y", "", "a", "", "b", "", "c", "")), appends+"crash 0 1 2 3; lasts = a=xy b=x c=xyz")
	play(t, Load(roomy, files("b", string(make([]byte, most+1)), "a", "", "b", "", "a", "", "c", "")), appends+"crash 0 1 2 3; lasts = a=x b=xy c=xyz")
	play(t, New(roomy), "create b; create a; create c; "+appends+"crash 3 1 2 3; lasts = a=xy b=x c=xyz")
	play(t, Load(roomy, files("c", "")), "create b; create a; syncdir; "+appends+"crash 0 1 2 3; lasts = a=xyz b=xy c=x")
	play(t, New(roomy), "create b; create b = !7; create a; create x/y = !12; create c; "+appends+"crash 3 1 2 3; lasts = a=xy b=x c=xyz")
	// A file keeps its number, whatever its name becomes, and no other one gets it.
	play(t, New(roomy), "create x; create y; rename x b; rename y a; create c; "+appends+"syncdir; crash 0 1 2 3; lasts = a=xy b=x c=xyz")
	play(t, New(roomy), "create c; create a; remove c; syncdir; create c; create b; syncdir; "+appends+"crash 0 1 2 3; lasts = a=x b=xyz c=xy")
	play(t, New(roomy), "create b; syncdir; create x; crash; create c; create a; syncdir; "+appends+"crash 0 1 2 3; lasts = a=xyz b=x c=xy")
	play(t, New(roomy), "create c; crash 1; create b; crash 1; create a; crash 1; "+appends+"crash 0 1 2 3; lasts = a=xyz b=xy c=x")
	// Numbers of two figures are above those of one.
	d, many := New(roomy), ""
	for i := range 25 {
		s := string(rune('z' - i))
		many = fmt.Sprintf(" %s=%s", s, strings.Repeat("m", i+1)) + many
		play(t, d, fmt.Sprintf("create %s; append %s %s", s, s, strings.Repeat("m", 29)))
	}
	choice := []byte{255}
	for i := range 25 {
		choice = append(choice, byte(i+1))
	}
	play(t, d, called(choice)+"; lasts ="+many)
}

// P12.2: each power call with each of its errors, and with two at once, so that the first is answered; and all of them without power and without a disk.
func TestErrors(t *testing.T) {
	start := "create a; append a abcd; create b; append b xyz; create gone; remove gone; "
	x33 := strings.Repeat("x", 33)
	for _, c := range []struct {
		l    api.Limits
		text string
	}{
		// With the removed file, there are three.
		{api.Limits{Bytes: 10, Files: 3}, "create c = !8; create a = !8; create x/y = !8; create \"\" = !8; create gone = !8"},
		{api.Limits{Bytes: 10, Files: 4}, "create a = !7; create b = !7; create x/y = !12; create \"\" = !12; create \"\\x20\" = !12; create " + x33 + " = !12; create \"\\xff\" = !12"},
		{api.Limits{Bytes: 10, Files: 4}, "append c x = !6; append gone x = !6; append c = !6; append c 12345678901 = !6; append c *1048577 = !6; append \"\" = !6; append x/y x = !6; append " + x33 + " x = !6; append A x = !6"},
		{api.Limits{Bytes: 10, Files: 4}, "append a *1048577 = !18; append a *1048573 = !18; append a 1234 = !9; append a *1048572 = !9; append b 1234 = !9; append b *1048574 = !18; append b *1048573 = !9"},
		{api.Limits{Bytes: math.MaxInt, Files: 4}, "append a *1048577 = !18; append a *1048573 = !18"},
		{api.Limits{Bytes: 10, Files: 4}, "cut c 0 = !6; cut gone 0 = !6; cut c -1 = !6; cut c 1 = !6; cut \"\" 0 = !6; cut a -1 = !20; cut a 5 = !20; cut b 4 = !20; cut b 9223372036854775807 = !20; cut b -9223372036854775808 = !20"},
		{api.Limits{Bytes: 10, Files: 4}, "sync c = !6; sync gone = !6; sync \"\" = !6; sync x/y = !6; sync A = !6"},
		{api.Limits{Bytes: 10, Files: 4}, "rename c d = !6; rename gone d = !6; rename c c = !6; rename c x/y = !6; rename c a = !6; rename \"\" \"\" = !6; rename \"\" d = !6; rename a x/y = !12; rename a \"\" = !12; rename b " + x33 + " = !12; rename b \"\\x7f\" = !12"},
		{api.Limits{Bytes: 10, Files: 4}, "remove c = !6; remove gone = !6; remove \"\" = !6; remove x/y = !6; remove A = !6"},
	} {
		d := New(c.l)
		play(t, d, start)
		before := d.Calls()
		for at, line := range lines(c.text) {
			was := seen(d)
			play(t, d, line)
			if seen(d) != was || d.Calls() != before+at+1 {
				t.Fatalf("behind %q with %+v: %d calls, %s", line, c.l, d.Calls()-before, seen(d))
			}
		}
		was := dark(d)
		d.Fuse(0)
		var none *Disk
		for _, line := range lines(c.text) {
			call, _, _ := strings.Cut(line, "=")
			play(t, d, call+" = !11; syncdir = !11")
			play(t, none, call+" = !1")
		}
		if play(t, d, "sees = !11"); dark(d) != was {
			t.Fatalf("without power, %q leaves %s of %s", c.text, dark(d), was)
		}
	}
}

// P12.2: every call that is done is counted, the one that fails as well; without power, none is, and nothing else is either.
func TestCalls(t *testing.T) {
	d := New(api.Limits{Bytes: 5, Files: 2})
	play(t, d, "calls = 0; create a; calls = 1; append a abc; calls = 2; cut a 2; calls = 3; sync a; calls = 4; rename a b; calls = 5; create c; calls = 6; remove c; calls = 7; syncdir; calls = 8")
	play(t, d, "create b = !7; calls = 9; create x/y = !12; calls = 10; append z x = !6; calls = 11; append b xyzw = !9; calls = 12; append b *1048576 = !18; calls = 13; append b; calls = 14")
	play(t, d, "cut z 0 = !6; calls = 15; cut b 3 = !20; calls = 16; sync z = !6; calls = 17; rename z y = !6; calls = 18; rename b \"\" = !12; calls = 19; rename b b; calls = 20; remove z = !6; calls = 21; syncdir; calls = 22; syncdir; calls = 23")
	play(t, d, "read b 0 1 = a; read b 9 9 = !20; read z 0 0 = !6; size b = 2; size z = !6; names = b; free = 3 1; lasts = b=ab; calls = 23; calls = 23")
	play(t, d, "create c; create d = !8; calls = 25; fuse 3; calls = 25; sync c; calls = 26; sync z = !6; calls = 27; sync c; calls = 28; sync c = !11; calls = 28; sync z = !11; create d = !11; syncdir = !11; calls = 28")
	play(t, d, "fuse 9; sync c = !11; calls = 28; fuse -1; sync c = !11; calls = 28; crash; calls = 28; syncdir; calls = 29; crash 1 2 3; crash; calls = 29")
}

// P12.2 and P12.4: with a fuse of whatever number, just so many of the calls to come are done as it leaves, and the others do nothing.
func TestFuse(t *testing.T) {
	start := "create a; append a abc; sync a; syncdir; "
	calls := lines("append a x; create b; append b yz; cut a 2; rename b c; cut z 0 = !6; sync a; create c = !7; remove c; syncdir; create d; sync d")
	for _, n := range []int{math.MinInt, math.MinInt + 1, -2, -1, 0, 1, 2, 3, 4, 5, 6, 7, 8, 9, 10, len(calls) - 1, len(calls), len(calls) + 1, 300, 1 << 32, math.MaxInt - 1, math.MaxInt} {
		for _, choice := range choices() {
			d, want := New(roomy), New(roomy)
			play(t, d, start)
			play(t, want, start)
			d.Fuse(n)
			for at, call := range calls {
				if n < 0 || at < n {
					play(t, want, call)
					play(t, d, call+"; sees = "+sees(want))
				} else {
					name, _, _ := strings.Cut(call, "=")
					play(t, d, name+" = !11; names = !11; size a = !11; read a 0 1 = !11")
				}
				if now, wanted := dark(d), dark(want); now != wanted {
					t.Fatalf("with a fuse of %d, behind call %d: %s, want %s", n, at, now, wanted)
				}
			}
			d.Crash(choice)
			want.Crash(choice)
			if observed(d) != observed(want) {
				t.Fatalf("with a fuse of %d, a crash by %v leaves %s, want %s", n, choice, observed(d), observed(want))
			}
			play(t, d, strings.Repeat("syncdir; ", 20)+"append a z")
		}
	}
}

// P12.4: a fuse that is set ahead of calls, between them, while power is off, anew, or removed again.
func TestFuseAnew(t *testing.T) {
	for _, text := range []string{
		"fuse 0; sync a = !11; sync a = !11", "fuse 1; sync a; sync a = !11", "fuse 2; sync a; sync a; sync a = !11",
		"fuse 0; fuse 2; sync a; sync a; sync a = !11", "fuse 2; fuse 0; sync a = !11", "fuse 3; sync a; fuse 3; sync a; sync a; sync a; sync a = !11", "fuse 3; sync a; fuse 1; sync a; sync a = !11", "fuse 3; sync a; fuse 0; sync a = !11", "fuse 1; sync a; fuse 1; sync a; sync a = !11",
		"fuse 1; fuse -1; sync a; sync a; sync a", "fuse 0; fuse -1; sync a; sync a", "fuse 1; sync a; fuse -1; sync a; sync a; sync a", "fuse 2; sync a; fuse -9223372036854775808; sync a; sync a; sync a", "fuse -1; sync a; fuse -2; sync a; fuse 1; sync a; sync a = !11",
		"fuse 0; sync a = !11; fuse 5; sync a = !11; sync a = !11; crash; sync a; sync a; sync a; sync a; sync a; sync a; sync a", "fuse 0; sync a = !11; fuse -1; sync a = !11; names = !11; crash; sync a", "fuse 1; sync a; sync a = !11; fuse 9223372036854775807; sync a = !11; crash; sync a", "fuse 0; sync a = !11; fuse 0; sync a = !11; crash; sync a",
		"fuse 2; sync a; crash; sync a; sync a; sync a", "fuse 0; crash; sync a; sync a", "fuse 5; crash; fuse 1; sync a; sync a = !11", "fuse 9223372036854775807; sync a; sync a; fuse 1; sync a; sync a = !11",
		// Power is on until a call asks for it, and nothing else asks for it.
		"fuse 0; names = a; size a = 3; read a 0 3 = abc; free = 7 1; lasts = a=abc; calls = 0; names = a; sync a = !11; names = !11; size a = !11; read a 0 3 = !11; free = 7 1; lasts = a=abc; calls = 0",
		"fuse 1; names = a; size a = 3; read a 0 3 = abc; read z 0 0 = !6; free = 7 1; lasts = a=abc; calls = 0; sync a; names = a; calls = 1; sync a = !11; calls = 1",
		"fuse 1; sync z = !6; sync z = !11", "fuse 2; create a = !7; cut a 9 = !20; sync z = !11; sync a = !11", "fuse 1; append a; append a = !11", "fuse 1; append a 12345678 = !9; append a 1 = !11; crash; append a 1; sees = a=abc1",
	} {
		play(t, Load(api.Limits{Bytes: 10, Files: 2}, files("a", "abc")), text)
	}
}

// P12.2: names that come and go: what is current, what is durable, and which files are kept, as the limits tell.
func TestNames(t *testing.T) {
	for _, text := range []string{
		"names =; create b; names = b; create a; names = a b; lasts =; syncdir; lasts = a= b=; free = 100 2",
		"create a; remove a; names =; free = 100 3; create a; free = 100 2; create b = ; remove b; free = 100 1; syncdir; names = a; free = 100 3",
		"create a; syncdir; remove a; free = 100 3; lasts = a=; syncdir; free = 100 4; lasts =",
		"create a; append a 1; sync a; syncdir; remove a; create a; sees = a=; lasts = a=1; append a 23; free = 97 2; sync a; lasts = a=1; syncdir; lasts = a=23; free = 98 3",
		"create a; append a 1; rename a a; sees = a=1; free = 99 3; syncdir; sees = a=1; free = 99 3", "create a; syncdir; rename a a; rename a a; syncdir; names = a; lasts = a=",
		"create a; append a 1; rename a b; sees = b=1; create a = ; append a 2; sees = a=2 b=1; free = 98 2; syncdir; free = 98 2; sees = a=2 b=1",
		"create a; create b; append a 1; append b 23; rename a b; sees = b=1; free = 97 2; sync b; syncdir; sees = b=1; lasts = b=1; free = 99 3",
		"create a; append a 1; sync a; create b; append b 23; sync b; syncdir; rename a b; lasts = a=1 b=23; free = 97 2; rename b a; sees = a=1; lasts = a=1 b=23; syncdir; lasts = a=1; free = 99 3",
		"create a; create b; append a 1; append b 23; rename a t; rename b a; rename t b; sees = a=23 b=1; free = 97 2; syncdir; sees = a=23 b=1; free = 97 2",
		"create a; append a 123; remove a; create b; append b 4; rename b a; sees = a=4; free = 96 2; syncdir; free = 99 3; sees = a=4",
		// A file that had two names one after the other.
		"create a; append a 1; syncdir; rename a b; append b 2; lasts = a=; sync b; lasts = a=12; rename b c; append c 3; sees = c=123; syncdir; lasts = c=12; free = 97 3; sync c; lasts = c=123",
		"create a; append a 12; syncdir; rename a b; remove b; names =; lasts = a=; free = 98 3; syncdir; lasts =; free = 100 4",
		"create a; rename a b; create a; rename b c; create b; rename c d; sees = a= b= d=; append d 1; append a 22; append b 333; free = 94 1; sees = a=22 b=333 d=1; syncdir; free = 94 1",
		"append a = !6; create a; append a; append A = !6; create A; append A 1; sees = A=1 a=", "create a; create aa; create a0; create 10; create 9 = !8; names = 10 a a0 aa",
	} {
		play(t, New(api.Limits{Bytes: 100, Files: 4}), text)
	}
}

// P12.2: as long as a crash may bring a file back, it counts against the limit of files; then no longer.
func TestLimitOfFiles(t *testing.T) {
	for _, text := range []string{
		"create a; create b = !8; create a = !8", "create a; remove a; create a = !8; syncdir; create a; create b = !8", "create a; remove a; create b = !8; crash; free = 10 1; create b", "create a; remove a; crash 1; names = a; create b = !8; remove a; syncdir; create b",
		"create a; syncdir; remove a; crash; create b = !8; names = a", "create a; syncdir; remove a; crash 1; free = 10 1; create b", "create a; syncdir; remove a; syncdir; create b; crash; create c", "create a; rename a b; create a = !8; syncdir; create a = !8", "create a; rename a a; syncdir; create b = !8; free = 10 0",
	} {
		play(t, New(api.Limits{Bytes: 10, Files: 1}), text)
	}
	play(t, New(api.Limits{Bytes: 10, Files: 2}), "create a; create b; rename a b; create c = !8; syncdir; create c; create d = !8; remove b; remove c; create d = !8; crash 1; names = b c; create d = !8; remove b; crash 1; names = c; create d")
}

// P12.2: the bytes that a crash may leave are in use: up to the limit all is well, beyond it nothing is, and an Append that needs no more of them is well in any case.
func TestLimitOfBytes(t *testing.T) {
	for _, text := range []string{
		"create a; append a 123456789; free = 1 2; append a 0; free = 0 2; append a x = !9; append a; sees = a=1234567890", "create a; append a 12345678901 = !9; sees = a=; append a 1234567890", "create a; append a 123456789; append a 12 = !9; append a 1; sees = a=1234567891",
		"create a; create b; append a 123456; append b 1234; append b 5 = !9; append a 7 = !9; append b; free = 0 1", "create a; create b; append a 123456; append b 12345 = !9; append b 1234; free = 0 1",
		// What a Cut takes off is in use until it is synced, and can be written again.
		"create a; append a 1234567890; cut a 3; append a abcdefg; append a h = !9; sees = a=123abcdefg; sync a; free = 0 2; append a h = !9", "create a; append a 1234567890; cut a 3; free = 0 2; append a ab; free = 0 2; sync a; free = 5 2; append a cdefg; free = 0 2; append a h = !9",
		"create a; append a 1234; sync a; cut a 1; append a xy; free = 6 2; append a z; free = 6 2; append a w; free = 5 2; cut a 0; free = 5 2; append a vvvvv; free = 5 2; append a vvvvv; free = 0 2; append a v = !9",
		"create a; append a 12345; cut a 0; sync a; free = 10 2; append a 1234567890; free = 0 2; cut a 0; append a 12345; append a 67890; append a 1 = !9", "create a; append a 12345; cut a 2; append a 12345678; free = 0 2; append a 9 = !9",
		// So is what is in files that are not there any more, until that is synced.
		"create a; append a 1234567890; remove a; free = 0 2; create a; append a 1 = !9; append a; syncdir; free = 10 2; append a 1", "create a; append a 12345678; create b; append b 90; rename b a; append a 1 = !9; syncdir; free = 8 2; append a 12345678; append a 9 = !9",
		"create a; syncdir; append a 12345; sync a; remove a; create b; append b 123456 = !9; append b 12345; free = 0 1; crash 1; free = 10 3; create b; append b 1234567890",
		"create a; append a 1234; create b; append b 1234; create c; append c 123 = !9; append c 12; free = 0 0; cut a 0; append c 3 = !9; sync a; append c 3456; append c 7 = !9",
	} {
		play(t, New(api.Limits{Bytes: 10, Files: 3}), text)
	}
	play(t, Load(api.Limits{Bytes: 3, Files: 1}, files("a", "12345")), "free = 0 0; append a x = !9; append a; cut a 5; append a x = !9; cut a 2; append a xyz; append a w = !9; cut a 2; append a x; sync a; free = 0 0; append a x = !9; cut a 2; sync a; free = 1 0; append a x; append a y = !9; sees = a=12x")
}

// P12.2: files of as many bytes as a file may have, and one more.
func TestLongestFiles(t *testing.T) {
	for _, text := range []string{
		"create a; append a *1048576; size a = 1048576; append a x = !18; append a; append a *1048577 = !18; free = 15728640 999; sync a; append a x = !18; cut a 1048575; append a x; append a x = !18; size a = 1048576",
		"create a; append a *1048575; append a xy = !18; append a x; append a x = !18; cut a 1048576; cut a 1048577 = !20; cut a 0; append a *1048577 = !18; append a *1048576; free = 15728640 999; size a = 1048576", "create a; append a *1048577 = !18; append a *2097152 = !18; size a = 0; free = 16777216 999",
		"create a; append a ab; append a *1048575 = !18; append a *1048574; read a 0 3 = ab\\x00; size a = 1048576; crash 1 255 255; size a = 1048576; append a = ; append a x = !18",
	} {
		play(t, New(roomy), text)
	}
	play(t, New(api.Limits{Bytes: most, Files: 3}), "create a; create b; append b x; append a *1048576 = !9; append a *1048577 = !18; append a *1048575; append a x = !9; append a xy = !18; append b x = !9")
	play(t, Load(api.Limits{Bytes: 5, Files: 1}, files("a", string(pattern(most)))), "append a x = !18; cut a 1048575; append a xy = !18; append a x; append a x = !18; cut a 9; sync a; append a *1048568 = !18; append a *1048567 = !9")
	d := New(roomy)
	play(t, d, "create a; append a *1048575; append a Z; create b; append b ab; append b *1048574")
	for name, want := range map[string]string{"a": string(pattern(most-1)) + "Z", "b": "ab" + string(pattern(most-2))} {
		if got, e := d.Read(name, 0, most); e != api.OK || string(got) != want {
			t.Errorf("%s is read as %s, error %d, want %s", name, short(got), e, short([]byte(want)))
		}
	}
}

// P12.2: appending and cutting, with nothing, with nil, and at the ends.
func TestAppendAndCut(t *testing.T) {
	for _, text := range []string{
		"append a d; sees = a=abcd; lasts = a=abc; append a ef; sees = a=abcdef; lasts = a=abc; sync a; lasts = a=abcdef; sees = a=abcdef", "cut a 2; sees = a=ab; lasts = a=abc; append a x; sees = a=abx; lasts = a=abc; sync a; lasts = a=abx",
		"cut a 0; sees = a=; size a = 0; append a; cut a 1 = !20; sync a; lasts = a=; append a \"\\x00\\xff\"; sees = a=\\x00\\xff", "cut a 3; sees = a=abc; cut a 4 = !20; cut a -1 = !20; cut a 2; cut a 3 = !20; cut a 2; sees = a=ab",
		"append a; append a \"\"; sees = a=abc; lasts = a=abc; free = 97 9", "append a \"\\x00\"; append a \"\\xff\\n\"; size a = 6; read a 3 3 = \\x00\\xff\\n; cut a 4; size a = 4; read a 3 1 = \\x00",
	} {
		play(t, Load(api.Limits{Bytes: 100, Files: 10}, files("a", "abc")), text)
	}
	for size := range 6 {
		for _, n := range []int{math.MinInt, math.MinInt + 1, math.MinInt32, -most, -2, -1, 0, 1, 2, 3, 4, 5, 6, 7, most, most + 1, math.MaxInt32, math.MaxInt - 1, math.MaxInt} {
			for _, synced := range []string{"", "sync a; "} {
				d, want, left := New(roomy), "!20", size
				play(t, d, fmt.Sprintf("create a; append a *%d; %s", size, synced))
				if n >= 0 && n <= size {
					want, left = "", n
				}
				play(t, d, fmt.Sprintf("cut a %d = %s; size a = %d", n, want, left))
				if got, _ := d.Read("a", 0, left); string(got) != string(pattern(left)) {
					t.Fatalf("behind a Cut of %d bytes to %d there is %q", size, n, got)
				}
			}
		}
	}
	for _, b := range [][]byte{nil, {}} {
		d := New(roomy)
		play(t, d, "create a; append a x")
		if e := d.Append("a", b); e != api.OK {
			t.Errorf("nothing appended: error %d", e)
		}
		// Nothing is pending for it, and so it uses up no part of a choice.
		play(t, d, "append a yz; crash 1 0 1; lasts = a=\\x00y")
	}
}

// P12.3: a Read with every kind of off and n.
func TestRead(t *testing.T) {
	for _, how := range []string{"", "sync a", "append a 12; cut a %d"} {
		for _, size := range []int{0, 1, 2, 5, 300} {
			d := New(roomy)
			play(t, d, fmt.Sprintf("create z; append z zzz; create a; append a *%d", size))
			if how != "" {
				play(t, d, strings.ReplaceAll(how, "%d", fmt.Sprint(size)))
			}
			all := pattern(size)
			numbers := []int{math.MinInt, math.MinInt + 1, math.MinInt32, -size - 1, -size, -2, -1, 0, 1, 2, 3, size / 2, size - 1, size, size + 1, size + 2, 2 * size, most, math.MaxInt32, math.MaxInt/2 + 1, math.MaxInt - size, math.MaxInt - 1, math.MaxInt}
			for _, off := range numbers {
				for _, n := range numbers {
					got, e := d.Read("a", off, n)
					if off >= 0 && n >= 0 && uint64(off)+uint64(n) <= uint64(size) {
						if e != api.OK || string(got) != string(all[off:off+n]) {
							t.Fatalf("%d bytes at %d of %d: %q, error %d", n, off, size, got, e)
						}
					} else if e != api.ErrRange || len(got) != 0 {
						t.Fatalf("%d bytes at %d of %d: %q, error %d", n, off, size, got, e)
					}
					play(t, d, fmt.Sprintf("read b %d %d = !6; read \"\" %d %d = !6; read gone/ %d %d = !6", off, n, off, n, off, n))
				}
			}
		}
	}
}

// P12.3: what is read is current: behind each change, under the name that the file has by then, and with the errors in their order.
func TestReadCurrent(t *testing.T) {
	d := Load(roomy, files("a", "abcd"))
	play(t, d, "read a 0 4 = abcd; read a 1 2 = bc; read a 4 0 =; read a 0 0 =; read a 5 0 = !20; read a 0 5 = !20; size a = 4; names = a")
	play(t, d, "append a ef; read a 2 4 = cdef; size a = 6; cut a 1; read a 0 1 = a; read a 0 2 = !20; size a = 1; append a Z; read a 0 2 = aZ; read a 1 2 = !20; size a = 2")
	play(t, d, "rename a b; read a 0 0 = !6; size a = !6; read b 1 1 = Z; names = b; create a; read a 0 0 =; size a = 0; read a 0 1 = !20; names = a b; remove b; read b 0 0 = !6; read b -1 -1 = !6; size b = !6; names = a")
	play(t, d, "fuse 0; read a 0 0 =; read b 0 0 = !6; size a = 0; names = a; syncdir = !11; read a 0 0 = !11; read a 0 1 = !11; read b 0 0 = !11; read b -1 0 = !11; size a = !11; size b = !11; names = !11; lasts = a=abcd")
	play(t, d, "crash; read a 0 4 = abcd; size a = 4; names = a; remove a; names =; syncdir; names =; size a = !6; read a 0 0 = !6")
	var none *Disk
	play(t, none, "read a 0 0 = !1; read a -1 0 = !1; read \"\" 0 0 = !1; size a = !1; size \"\" = !1; names = !1")
}

// P12.4: a crash by every kind of choice: the first byte for the names, then one for each pending change, file by file.
func TestCrash(t *testing.T) {
	// Of the names, a creation, a rename and a removal are pending; of the file that was a, an Append, a Cut and an Append; of the file b, an Append.
	start := "create a; append a ab; sync a; syncdir; append a cde; cut a 1; append a z; create b; append b xyz; rename a c; remove b; "
	for _, c := range []struct {
		choice []byte
		want   string
	}{
		{nil, "a=ab"}, {[]byte{}, "a=ab"}, {[]byte{0}, "a=ab"}, {[]byte{1}, "a=ab b="}, {[]byte{2}, "b= c=ab"}, {[]byte{3}, "c=ab"}, {[]byte{4}, "c=ab"}, {[]byte{254}, "c=ab"}, {[]byte{255}, "c=ab"},
		{[]byte{0, 1}, "a=abc"}, {[]byte{0, 2}, "a=abcd"}, {[]byte{0, 3}, "a=abcde"}, {[]byte{0, 254}, "a=abcde"}, {[]byte{0, 255}, "a=abcde"}, {[]byte{0, 0}, "a=ab"},
		{[]byte{0, 0, 1}, "a=a"}, {[]byte{0, 255, 254}, "a=a"}, {[]byte{0, 255, 0, 1}, "a=azcde"}, {[]byte{0, 0, 0, 1}, "a=az"}, {[]byte{0, 2, 2, 2}, "a=az"}, {[]byte{0, 0, 1, 0}, "a=a"},
		{[]byte{1, 255, 0, 0, 2}, "a=abcde b=xy"}, {[]byte{1, 255, 0, 255, 1}, "a=azcde b=x"}, {[]byte{1, 0, 0, 0, 0}, "a=ab b="}, {[]byte{1, 0, 0, 0, 1}, "a=ab b=x"}, {[]byte{1, 0, 0, 0, 3}, "a=ab b=xyz"}, {[]byte{1, 0, 0, 0, 4}, "a=ab b=xyz"}, {[]byte{1, 0, 0, 0, 254}, "a=ab b=xyz"}, {[]byte{1, 0, 0, 0, 255}, "a=ab b=xyz"},
		{[]byte{1, 1, 1, 1, 1}, "a=az b=x"}, {[]byte{2, 0, 1, 0, 255}, "b=xyz c=a"}, {[]byte{2, 1, 0, 0, 2}, "b=xy c=abc"}, {[]byte{2, 255, 255, 255, 255}, "b=xyz c=az"}, {[]byte{3, 0, 0, 1, 255}, "c=az"}, {[]byte{255, 255, 255, 255, 255}, "c=az"}, {[]byte{254, 254, 254, 254, 254}, "c=az"},
		{[]byte{1, 0, 0, 0}, "a=ab b="}, {[]byte{1, 255, 255, 255}, "a=az b="}, {[]byte{1, 0, 0, 0, 1, 9}, "a=ab b=x"}, {[]byte{1, 0, 0, 0, 1, 255, 255, 255, 255}, "a=ab b=x"}, {[]byte{0, 0, 0, 0, 1}, "a=ab"},
	} {
		for _, off := range []string{"", "fuse 9; ", "fuse 0; ", "fuse 0; syncdir = !11; ", "fuse 0; syncdir = !11; fuse 3; "} {
			d := New(roomy)
			play(t, d, start+off+called(c.choice))
			play(t, d, "lasts = "+c.want+"; sees = "+c.want)
			// There is power, no fuse, and nothing pending any more.
			play(t, d, called([]byte{255, 255, 255, 255, 255, 255})+"; lasts = "+c.want+"; sees = "+c.want)
			play(t, d, strings.Repeat("syncdir; ", 10)+"lasts = "+c.want)
		}
	}
}

// P12.4: a file that goes uses up its part of a choice even so, and one that went before does not.
func TestCrashOfFilesThatGo(t *testing.T) {
	for _, c := range []struct{ text, want string }{
		{"create a; create b; append a abc; append b xyz; remove a; crash 3 2 1", "b=x"}, {"create a; create b; append a abc; append b xyz; remove a; crash 2 2 1", "a=ab b=x"}, {"create a; create b; append a abc; append b xyz; remove a; crash 1 2 1", "a=ab"},
		{"create a; create b; append a abc; append b xyz; remove a; syncdir; crash 3 2 1", "b=xy"}, {"create a; append a abc; remove a; syncdir; create b; syncdir; append b xyz; crash 0 2 1", "b=xy"}, {"create a; append a abc; crash; create b; append b xyz; crash 1 2 1", "b=xy"},
		{"create a; create b; append a abc; append b xyz; rename b a; crash 3 2 1", "a=x"}, {"create a; create b; append a abc; append b xyz; rename a b; crash 3 2 1", "b=ab"}, {"create a; create b; append a abc; append b xyz; rename a b; crash 2 2 1", "a=ab b=x"}, {"create a; create b; append a abc; append b xyz; rename a b; syncdir; crash 3 2 1", "b=ab"},
		{"create a; append a abc; remove a; create a; append a xyz; crash 3 2 1", "a=x"}, {"create a; append a abc; remove a; create a; append a xyz; crash 1 2 1", "a=ab"}, {"create a; append a abc; remove a; create a; append a xyz; crash 2 2 1", ""},
		{"create a; append a abc; sync a; create b; append b xyz; crash 2 2 1", "a=abc b=xy"}, {"create a; append a abc; cut a 3; append a; create b; append b xyz; crash 2 255 0 1", "a=abc b=x"}, {"create a; rename a a; rename a b; append b xy; crash 2 1", "a=x"}, {"create a; rename a a; rename a b; append b xy; crash 3 1", "b=x"},
		{"create a; append a abc; syncdir; rename a b; append b def; cut b 4; crash 0 255 2", "a=abcde"}, {"create a; append a abc; syncdir; rename a b; append b def; cut b 4; crash 1 255 2 0", "b=abcde"}, {"create a; append a abc; syncdir; rename a b; append b def; cut b 4; crash 1 255 2 1", "b=abcd"},
	} {
		play(t, New(roomy), c.text+"; lasts = "+c.want+"; sees = "+c.want)
	}
}

// P12.4: more pending changes of names than a byte counts, and Data longer than it.
func TestCrashOfMany(t *testing.T) {
	for _, n := range []int{253, 254, 255, 256, 257, 300} {
		for _, c := range []int{0, 1, 2, 100, 253, 254, 255} {
			d := New(roomy)
			for i := range n {
				play(t, d, fmt.Sprintf("create f%d", i))
			}
			d.Crash([]byte{byte(c)})
			if names, e := d.Names(); e != api.OK || len(names) != min(n, c) || len(d.Image()) != min(n, c) {
				t.Errorf("of %d files, a crash by %d leaves %d, error %d", n, c, len(names), e)
			}
			left := n
			if c < 255 {
				left = min(n, c)
			}
			d = New(roomy)
			play(t, d, fmt.Sprintf("create a; append a *%d; crash 1 %d; size a = %d; lasts = a=%s", n, c, left, short(pattern(n)[:left])))
		}
	}
}

// P12.4: an Image has what is durable, in order, with power and without, and however the names have changed since.
func TestImage(t *testing.T) {
	d := Load(roomy, files("b", "2", "a", "1", "C", ""))
	play(t, d, "lasts = C= a=1 b=2; remove a; rename b 0; create d; append d 4; append 0 x; lasts = C= a=1 b=2; sync 0; lasts = C= a=1 b=2x; sync d; lasts = C= a=1 b=2x")
	play(t, d, "fuse 0; lasts = C= a=1 b=2x; syncdir = !11; lasts = C= a=1 b=2x; crash 2; lasts = 0=2x C=; sees = 0=2x C=")
	play(t, d, "create d; append d 4; syncdir; lasts = 0=2x C= d=; sync d; lasts = 0=2x C= d=4; cut d 0; lasts = 0=2x C= d=4; remove d; create d; append d 5; sync d; lasts = 0=2x C= d=4; syncdir; lasts = 0=2x C= d=5")
	// An Image loads as it is.
	play(t, Load(roomy, d.Image()), "lasts = 0=2x C= d=5; sees = 0=2x C= d=5")
}

// P12.4: what the limits leave is never below 0, and can be asked without power.
func TestFree(t *testing.T) {
	play(t, New(api.Limits{Bytes: 10, Files: 2}), "free = 10 2; create a; append a abcd; create b; append b xyz; free = 3 0; fuse 0; free = 3 0; sync a = !11; free = 3 0; crash 1 1; free = 9 1; fuse 0; syncdir = !11; free = 9 1; fuse 3; free = 9 1; crash; free = 9 1")
	for _, c := range []struct {
		l            api.Limits
		bytes, files int
	}{
		{api.Limits{Bytes: 5, Files: 2}, 0, 0}, {api.Limits{Bytes: 6, Files: 3}, 1, 1}, {api.Limits{Bytes: 4, Files: 1}, 0, 0}, {api.Limits{}, 0, 0}, {api.Limits{Bytes: -1, Files: -1}, 0, 0}, {api.Limits{Bytes: math.MinInt, Files: math.MinInt}, 0, 0}, {api.Limits{Bytes: math.MinInt + 5, Files: math.MinInt + 2}, 0, 0},
		{api.Limits{Bytes: math.MinInt + 4, Files: math.MinInt + 1}, 0, 0}, {api.Limits{Bytes: math.MaxInt, Files: math.MaxInt}, math.MaxInt - 5, math.MaxInt - 2}, {api.Limits{Bytes: 7, Files: 0}, 2, 0}, {api.Limits{Bytes: 0, Files: 7}, 0, 5},
	} {
		d := Load(c.l, files("a", "abc", "b", "de"))
		play(t, d, fmt.Sprintf("free = %d %d; fuse 0; syncdir = !11; free = %d %d", c.bytes, c.files, c.bytes, c.files))
	}
}

// P12.5: every call without a disk.
func TestNil(t *testing.T) {
	var d *Disk
	for range 2 {
		play(t, d, "create a = !1; create \"\" = !1; append a x = !1; append a = !1; append \"\" *1048577 = !1; cut a 0 = !1; cut a -1 = !1; sync a = !1; rename a b = !1; rename \"\" \"\" = !1; remove a = !1; syncdir = !1")
		play(t, d, "read a 0 0 = !1; read a -1 -1 = !1; read \"\" 0 9 = !1; size a = !1; names = !1; free = 0 0; calls = 0; lasts =; fuse 0; fuse 5; fuse -1; crash; crash 1 2 3; create a = !1; free = 0 0; calls = 0; lasts =")
	}
	if b, e := d.Read("a", 0, 0); b != nil || e != api.ErrNil {
		t.Errorf("a Read answers %q, error %d", b, e)
	}
	if l := d.Image(); l != nil {
		t.Errorf("the Image is %v", l)
	}
}

// P12.6: bytes that were synced survive every crash if the name of their file was synced as well, in whatever order, and otherwise nothing of them need.
func TestWhatSurvives(t *testing.T) {
	start := "create a; append a abc; cut a 2; append a z; create b; append b xyz; rename b c; "
	for _, choice := range choices() {
		for _, text := range []string{"sync a; sync c; syncdir", "syncdir; sync a; sync c", "sync c; syncdir; sync a", "sync a; sync c; syncdir; sync a; syncdir; sync c", "syncdir; sync c; syncdir; sync a; append a; fuse 0; create d = !11"} {
			d := New(roomy)
			play(t, d, start+text)
			play(t, d, "lasts = a=abz c=xyz; "+called(choice)+"; lasts = a=abz c=xyz; sees = a=abz c=xyz; "+called(choice)+"; lasts = a=abz c=xyz; free = 16777210 998")
			// What comes then may be lost or not, and what was synced is there, as long as it isn't cut or removed.
			play(t, d, "append a more; append c more; create d; append d more; rename d e; "+called(choice))
			for _, f := range d.Image() {
				if s := string(f.Data); (f.Name == "a" && !strings.HasPrefix(s, "abz")) || (f.Name == "c" && !strings.HasPrefix(s, "xyz")) {
					t.Errorf("a crash by %v leaves %s", choice, image(d))
				}
			}
			if names, _ := d.Names(); len(names) < 2 || names[0] != "a" || names[1] != "c" {
				t.Errorf("a crash by %v leaves %q", choice, names)
			}
		}
	}
	for _, c := range []struct{ text, want string }{
		{"", ""}, {"sync a; sync c", ""}, {"syncdir", "a= c="}, {"syncdir; sync a", "a=abz c="}, {"sync c; syncdir", "a= c=xyz"}, {"sync a; syncdir; remove a; create a; append a new; sync a", "a=abz c="}, {"sync a; syncdir; remove a; create a; append a new; syncdir", "a= c="}, {"sync a; syncdir; remove a; syncdir", "c="},
		{"sync a; syncdir; rename c a; sync a", "a=abz c=xyz"}, {"sync a; syncdir; rename c a; syncdir", "a="}, {"syncdir; remove c; sync a", "a=abz c="}, {"sync c; remove c; syncdir", "a="}, {"sync a; syncdir; cut a 0; append a q", "a=abz c="},
	} {
		d := New(roomy)
		play(t, d, start)
		if c.text != "" {
			play(t, d, c.text)
		}
		play(t, d, "lasts = "+c.want+"; crash; lasts = "+c.want+"; sees = "+c.want+"; crash 255 255 255 255 255; sees = "+c.want)
	}
}

// P12.6: a crash behind a crash loses nothing more, and what a crash leaves is durable; files that only a pending change removed come back with their bytes.
func TestCrashBehindCrash(t *testing.T) {
	for _, start := range starts() {
		for _, choice := range choices() {
			d := start.disk(t)
			was, _ := d.Free()
			d.Crash(choice)
			left := observed(d)
			if sees(d) != image(d) {
				t.Fatalf("a crash by %v behind %q leaves %s, and %s is durable", choice, start.text, sees(d), image(d))
			}
			if b, _ := d.Free(); b < was {
				t.Fatalf("a crash by %v behind %q leaves %d bytes, and before it were %d", choice, start.text, b, was)
			}
			for _, next := range choices() {
				if d.Crash(next); observed(d) != left {
					t.Fatalf("a crash by %v behind one by %v behind %q: %s, want %s", next, choice, start.text, observed(d), left)
				}
			}
		}
	}
	play(t, Load(roomy, files("a", "abc", "b", "xyz")), "remove a; cut b 0; rename b a; create b; append b new; remove a; remove b; names =; free = 16777207 997; crash; sees = a=abc b=xyz; free = 16777210 998; remove a; crash; sees = a=abc b=xyz; remove b; crash 1; sees = a=abc; remove a; syncdir; crash; sees =; free = 16777216 1000")
}

// P12.6: apart from a crash, only Sync and SyncDir make anything durable.
func TestWhatMakesDurable(t *testing.T) {
	for _, start := range starts() {
		for _, call := range calls() {
			d := start.disk(t)
			was := image(d)
			ask(d, call)
			if name := strings.Fields(call)[0]; image(d) != was && name != "sync" && name != "syncdir" && name != "crash" {
				t.Errorf("%q behind %q makes %s durable of %s", call, start.text, image(d), was)
			}
			for _, look := range []string{"read a 0 1", "read b 0 9", "size a", "names", "free", "calls", "sees", "lasts", "fuse 3", "fuse -1"} {
				was = image(d)
				if ask(d, look); image(d) != was {
					t.Errorf("%q behind %q makes %s durable of %s", look, start.text, image(d), was)
				}
			}
		}
	}
}

// P12.2 and R2: a call that returns an error has changed nothing, now or behind any crash, but the calls that are counted and left.
func TestErrorsChangeNothing(t *testing.T) {
	for _, start := range starts() {
		for _, call := range append(calls(), "create a/b", "append a *1048576", "append z x", "rename a \"\"", "rename z a", "cut a 1048577", "sync z", "remove z", "create \"\"") {
			for _, choice := range choices() {
				d, same := start.disk(t), start.disk(t)
				got := ask(d, call)
				if !strings.HasPrefix(got, "!") {
					continue
				}
				if look := []string{"read", "size", "names"}; got != "!11" && !slices.Contains(look, strings.Fields(call)[0]) {
					// The one call is used up, just as by one that does nothing.
					ask(same, "remove z")
				}
				for _, next := range []string{"size a", "sync z", "sync z", called(choice), "create y", "append y yyyyy", "append y more", called(choice)} {
					ask(d, next)
					ask(same, next)
					if observed(d) != observed(same) {
						t.Fatalf("%q behind %q answers %s; behind %q then is %s, want %s", call, start.text, got, next, observed(d), observed(same))
					}
				}
			}
		}
	}
}

// P12.1 to P12.4: all rows of up to two calls, and of three of the commonest, behind several starts, held against the model.
func TestRowsOfCalls(t *testing.T) {
	for _, start := range starts() {
		for _, row := range rows(calls(), 2) {
			checkRow(t, start, row)
		}
	}
	for _, start := range starts()[:4] {
		for _, row := range rows(calls()[:20], 3) {
			checkRow(t, start, row)
		}
	}
}

// P12.1 to P12.4 and P12.6: long rows of calls with all kinds of arguments, held against the model behind each.
func TestLongRows(t *testing.T) {
	r := rand.New(rand.NewPCG(12, 6))
	for range 1500 {
		start := setting{l: api.Limits{Bytes: r.IntN(700), Files: 1 + r.IntN(6)}}
		for range r.IntN(4) {
			start.files = append(start.files, api.File{Name: some(r), Data: pattern(r.IntN(300))})
		}
		var row []string
		for range 50 {
			row = append(row, random(r))
		}
		d, m := start.disk(t), start.model()
		for at, call := range row {
			was, _ := d.Free()
			got, want := ask(d, call), ask(m, call)
			if now, wanted := observed(d), observed(m); got != want || now != wanted {
				t.Fatalf("behind %q with %+v and %d files: %q, %s, want %q, %s", row[:at+1], start.l, len(start.files), got, now, want, wanted)
			}
			if b, _ := d.Free(); strings.HasPrefix(call, "crash") && b < was {
				t.Fatalf("behind %q with %+v %d bytes are left of %d", row[:at+1], start.l, b, was)
			}
		}
	}
}

// R3: what comes in stays as it was, and is not kept: whatever is done to it then, the disk stays.
func TestArgumentsStay(t *testing.T) {
	b, f, c := pattern(9), files("a", "abc", "b", "xyz", "a", "q", "x y", "r"), []byte{2, 1, 255, 1, 7, 8}
	data := []byte("defSPARE")
	f[0].Data = append(f[0].Data, "SPARE"...)[:3]
	wasB, wasF, wasC := slices.Clone(b), listed(f), slices.Clone(c)
	d, other := Load(roomy, f), Load(roomy, f)
	play(t, d, "sees = a=abc b=xyz")
	if d.Append("a", data[:3]) != api.OK || d.Append("b", b[:2:5]) != api.OK || d.Append("b", b[2:4]) != api.OK {
		t.Fatal("an Append fails")
	}
	if string(data) != "defSPARE" || !slices.Equal(b, wasB) || listed(f) != wasF || string(f[0].Data[:8]) != "abcSPARE" {
		t.Fatalf("what came in is %q, %v, %s", data, b, listed(f))
	}
	before := sees(d)
	spoil(data)
	spoil(b)
	for i := range f {
		f[i].Name += "!"
		spoil(f[i].Data[:cap(f[i].Data)])
	}
	if sees(d) != before || sees(other) != "a=abc b=xyz" || image(d) != "a=abc b=xyz" {
		t.Fatalf("the disk kept what came in: %s, %s, %s", sees(d), sees(other), image(d))
	}
	d.Crash(c)
	if !slices.Equal(c, wasC) {
		t.Fatalf("a crash makes the choice %v", c)
	}
	before = observed(d)
	if spoil(c); observed(d) != before {
		t.Fatalf("the disk kept a choice: %s, want %s", observed(d), before)
	}
	play(t, d, "append a x; crash; append a x; sync a; sees = a=abcdx b=xyz\\x00\\x01\\x02")
	play(t, other, "append a 12; append b 34; crash 0 1 1; sees = a=abc1 b=xyz3")
}

// R3: what is answered may be changed, with the memory behind it, and the disk stays.
func TestAnswersMayBeChanged(t *testing.T) {
	for _, start := range starts() {
		for _, choice := range choices() {
			d, same := start.disk(t), start.disk(t)
			spoilAnswers(d)
			if observed(d) != observed(same) {
				t.Fatalf("behind %q: %s, want %s", start.text, observed(d), observed(same))
			}
			d.Crash(choice)
			same.Crash(choice)
			spoilAnswers(d)
			if observed(d) != observed(same) {
				t.Fatalf("behind %q and a crash: %s, want %s", start.text, observed(d), observed(same))
			}
			ask(d, "append a more")
			ask(same, "append a more")
			if observed(d) != observed(same) {
				t.Fatalf("behind %q, a crash and an Append: %s, want %s", start.text, observed(d), observed(same))
			}
		}
	}
	d := Load(roomy, files("a", "abc"))
	b, _ := d.Read("a", 0, 2)
	c, _ := d.Read("a", 0, 3)
	one, two := d.Image(), d.Image()
	play(t, d, "cut a 0; append a xyz; sync a; remove a; syncdir")
	spoil(b[:cap(b)])
	spoil(one[0].Data)
	if string(c) != "abc" || string(two[0].Data) != "abc" {
		t.Errorf("an answer becomes %q, another one %q", c, two[0].Data)
	}
}

// R4: what is done to one disk says nothing of another one.
func TestDisksOfTheirOwn(t *testing.T) {
	a, b := New(api.Limits{Bytes: 3, Files: 1}), New(api.Limits{Bytes: 9, Files: 2})
	play(t, a, "create a; append a abc")
	play(t, b, "names =; free = 9 2; calls = 0; create a; create b; append a 12345")
	play(t, a, "sees = a=abc; fuse 0; syncdir = !11; calls = 2")
	play(t, b, "sees = a=12345 b=; syncdir; calls = 4; fuse 2; sync a; crash")
	play(t, a, "names = !11; crash 1 2; lasts = a=ab; sync a; sync a; sync a")
	play(t, b, "lasts = a=12345 b=")
}

// setting is a disk with what is done to it first.
type setting struct {
	l     api.Limits
	files []api.File
	text  string
}

func (s setting) disk(t *testing.T) *Disk {
	d := Load(s.l, s.files)
	play(t, d, s.text)
	return d
}

func (s setting) model() *model {
	m := newModel(s.l, s.files...)
	for _, call := range lines(s.text) {
		name, _, _ := strings.Cut(call, "=")
		ask(m, name)
	}
	return m
}

// starts answers disks of all kinds: empty and full ones, such with all kinds of pending changes, and some with a fuse or without power.
func starts() []setting {
	l, small := api.Limits{Bytes: 30, Files: 5}, api.Limits{Bytes: 9, Files: 2}
	pending := "create c; append c 333; append a x; cut a 2; append a yz; rename c d; remove b; create b; append b 4"
	return []setting{
		{l: l}, {l: small, files: files("a", "abc", "b", "xyz")}, {l: l, files: files("a", "abc", "b", "xyz"), text: pending}, {l: small, text: "create b; append b 12345; create a; append a 6; remove b"},
		{l: l, files: files("b", "12", "a", "345", "a", "6"), text: "rename a b; create a; append a 1; append b 2; sync a; remove b; fuse 2"}, {l: l, text: "create a; append a abc; sync a; create b; append b x; syncdir; append b yz; cut a 1; rename b a; fuse 0; syncdir = !11"},
		{l: api.Limits{Bytes: 3, Files: 1}, files: files("a", "abc", "b", "xyz", "c", "")}, {l: api.Limits{Bytes: math.MinInt, Files: math.MaxInt}, files: files("b", "", "a", "abc"), text: "create c; cut a 1; append a xy; rename c d; rename a a"},
		{l: l, files: files("a", "abc"), text: "append a 1; append a 2; append a 3; cut a 4; cut a 1; cut a 0; append a 4567; create b; remove b; create b; rename b c; rename a b; rename c a; fuse 1"},
	}
}

// calls answers calls of all kinds, the commonest first.
func calls() []string {
	return []string{
		"create a", "create b", "append a xy", "append b 123456", "cut a 1", "cut b 0", "sync a", "sync b", "rename a b", "rename b a", "rename a c", "remove a", "remove b", "syncdir", "crash", "crash 1 1 1 1 1 1 1 1", "crash 2 0 255 1 0 2 255 1", "fuse 0", "fuse 1", "append a",
		"create c", "create d", "append c q", "append a *300", "cut a -1", "cut a 5", "rename b b", "rename c a", "rename a /", "remove c", "sync c", "fuse 2", "fuse -1", "crash 255 255 255 255 255 255 255 255", "crash 254 254 254 254 254 254 254", "crash 3 0 0 0 0 0 0 0 0 1", "crash 0 2 1 2 1 2 1", "read a 1 1", "read b 0 9", "size a", "names",
	}
}

// choices answers choices of no bytes, of few, and of more than there are pending changes.
func choices() [][]byte {
	out := [][]byte{nil, {}}
	for _, c := range []byte{0, 1, 2, 3, 254, 255} {
		out = append(out, []byte{c}, []byte{c, 0}, []byte{0, c}, []byte{1, c}, []byte{c, 1, 0, 255, 1, 2, 0, 1}, slices.Repeat([]byte{c}, 12))
	}
	return append(out, []byte{255, 0, 1, 0, 1, 0, 1, 0, 1}, []byte{255, 1, 0, 1, 0, 1, 0, 1, 0}, pattern(40))
}

// limits answers numbers that a limit may be.
func limits() []int {
	return []int{math.MinInt, math.MinInt + 1, math.MinInt32, -2, -1, 0, 1, 2, 7, 100, math.MaxInt32, math.MaxInt - 1, math.MaxInt}
}

// random answers a call with random arguments, some of which can't be.
func random(r *rand.Rand) string {
	number := func() int {
		return []int{-1, 0, 1, 2, r.IntN(20), r.IntN(300), 254, 255, 256, math.MaxInt, math.MinInt}[r.IntN(11)]
	}
	switch r.IntN(20) {
	case 0, 1, 2:
		return "create " + some(r)
	case 3, 4, 5, 6:
		return fmt.Sprintf("append %s *%d", some(r), []int{0, 1, 2, r.IntN(20), r.IntN(300), 254, 255, 256}[r.IntN(8)])
	case 7, 8, 9:
		return fmt.Sprintf("cut %s %d", some(r), number())
	case 10, 11:
		return "sync " + some(r)
	case 12, 13:
		return fmt.Sprintf("rename %s %s", some(r), some(r))
	case 14:
		return "remove " + some(r)
	case 15:
		return "syncdir"
	case 16:
		return fmt.Sprintf("fuse %d", []int{-1, 0, 1, 5, 20, number(), number()}[r.IntN(7)])
	case 17:
		return fmt.Sprintf("read %s %d %d", some(r), number(), number())
	}
	var choice []byte
	for range r.IntN(20) {
		choice = append(choice, []byte{0, 1, 2, 254, 255, byte(r.IntN(256))}[r.IntN(6)])
	}
	return called(choice)
}

// some answers a name, now and then one that can't be.
func some(r *rand.Rand) string {
	return []string{"a", "b", "c", "d", "a", "b", "c", "d", "e", `"\x20"`, "a/b"}[r.IntN(11)]
}

// files answers files, given as names and data in turns.
func files(l ...string) []api.File {
	var out []api.File
	for i := 0; i < len(l); i += 2 {
		out = append(out, api.File{Name: l[i], Data: []byte(l[i+1])})
	}
	return out
}

// seen answers what can be seen of a disk but its calls.
func seen(d device) string {
	_, rest, _ := strings.Cut(observed(d), ",")
	return rest
}

// dark answers what can be seen of a disk without power: what is durable, what the limits leave, and the calls.
func dark(d device) string {
	return fmt.Sprintf("%s; %s; %s", ask(d, "lasts"), ask(d, "free"), ask(d, "calls"))
}

// spoil changes all bytes.
func spoil(b []byte) {
	for i := range b {
		b[i] ^= 0xa5
	}
}

// spoilAnswers changes all that a disk answers, with the memory behind it.
func spoilAnswers(d *Disk) {
	names, _ := d.Names()
	for i, s := range names {
		n, _ := d.Size(s)
		b, _ := d.Read(s, 0, n)
		spoil(b[:cap(b)])
		b, _ = d.Read(s, n/2, 0)
		spoil(b[:cap(b)])
		names[i] += "!"
	}
	image := d.Image()
	for i := range image {
		spoil(image[i].Data[:cap(image[i].Data)])
		image[i].Name += "!"
	}
	_ = append(image, api.File{Name: "more"})
}

// checkRow does a row of calls to a disk and to its model, and holds against each other what they answer.
func checkRow(t *testing.T, s setting, row []string) {
	t.Helper()
	d, m := s.disk(t), s.model()
	for at, call := range row {
		if got, want := ask(d, call), ask(m, call); got != want {
			t.Fatalf("behind %q and %q, %q answers %q, want %q", s.text, row[:at], call, got, want)
		}
	}
	if got, want := observed(d), observed(m); got != want {
		t.Fatalf("behind %q and %q: %s, want %s", s.text, row, got, want)
	}
}
