package disk

import (
	"fmt"
	"hash/fnv"
	"slices"
	"strconv"
	"strings"
	"testing"

	"stillage/api"
)

// most is the length of the longest file.
const most = 1048576

// device is what a disk and its model have in common.
type device interface {
	Create(string) api.Errno
	Append(string, []byte) api.Errno
	Cut(string, int) api.Errno
	Sync(string) api.Errno
	Rename(string, string) api.Errno
	Remove(string) api.Errno
	SyncDir() api.Errno
	Read(string, int, int) ([]byte, api.Errno)
	Size(string) (int, api.Errno)
	Names() ([]string, api.Errno)
	Free() (int, int)
	Fuse(int)
	Calls() int
	Crash([]byte)
	Image() []api.File
}

// play does the calls of a text one after the other. Behind each may stand, after a =, what it is to answer; see ask. The calls are separated by semicolons.
func play(t *testing.T, d device, text string) {
	t.Helper()
	for at, line := range lines(text) {
		call, want, _ := strings.Cut(line, "=")
		if got := ask(d, call); got != strings.TrimSpace(want) {
			t.Fatalf("call %d of %q: %q answers %q", at, text, call, got)
		}
	}
}

// lines answers the calls of a text.
func lines(text string) []string {
	blank := func(line string) bool { return strings.TrimSpace(line) == "" }
	return slices.DeleteFunc(strings.Split(text, ";"), blank)
}

// ask does a call that is written as a text, and answers what it answered: nothing for OK, the number of an error behind an exclamation mark, or values.
//
// A name or bytes that aren't printed easily are in quotes; *9 stands for nine bytes. Beside the methods there are sees and lasts, for all names with the current and the durable bytes.
func ask(d device, call string) string {
	w := strings.Fields(call)
	switch w[0] {
	case "create":
		return problem(d.Create(text(w, 1)))
	case "append":
		return problem(d.Append(text(w, 1), []byte(text(w, 2))))
	case "cut":
		return problem(d.Cut(text(w, 1), number(w, 2)))
	case "sync":
		return problem(d.Sync(text(w, 1)))
	case "rename":
		return problem(d.Rename(text(w, 1), text(w, 2)))
	case "remove":
		return problem(d.Remove(text(w, 1)))
	case "syncdir":
		return problem(d.SyncDir())
	case "fuse":
		d.Fuse(number(w, 1))
	case "crash":
		d.Crash(choice(w[1:]))
	default:
		return look(d, w)
	}
	return ""
}

// look is ask for what changes nothing.
func look(d device, w []string) string {
	switch w[0] {
	case "read":
		b, e := d.Read(text(w, 1), number(w, 2), number(w, 3))
		return either(short(b), len(b) == 0, e)
	case "size":
		n, e := d.Size(text(w, 1))
		return either(strconv.Itoa(n), n == 0, e)
	case "names":
		l, e := d.Names()
		return either(strings.Join(l, " "), len(l) == 0, e)
	case "free":
		b, f := d.Free()
		return fmt.Sprint(b, f)
	case "calls":
		return strconv.Itoa(d.Calls())
	case "lasts":
		return image(d)
	case "sees":
		return sees(d)
	}
	panic(w[0])
}

// sees answers all current names, each with its bytes.
func sees(d device) string {
	names, e := d.Names()
	if e != api.OK {
		return problem(e)
	}
	var out []string
	for _, s := range names {
		n, e := d.Size(s)
		b, f := d.Read(s, 0, n)
		if e != api.OK || f != api.OK || len(b) != n {
			return fmt.Sprintf("of %q with %d bytes, error %d, %d are read, error %d", s, n, e, len(b), f)
		}
		out = append(out, fmt.Sprintf("%s=%s", told(s), short(b)))
	}
	return strings.Join(out, " ")
}

// image answers all durable names, each with its bytes.
func image(d device) string { return listed(d.Image()) }

func listed(files []api.File) string {
	var out []string
	for _, f := range files {
		out = append(out, fmt.Sprintf("%s=%s", told(f.Name), short(f.Data)))
	}
	return strings.Join(out, " ")
}

// observed answers all that can be seen of a disk without a power call, a crash or a fuse.
func observed(d device) string {
	b, f := d.Free()
	return fmt.Sprintf("%d calls, %d, %d left; current: %s; durable: %s", d.Calls(), b, f, sees(d), image(d))
}

// problem answers an error as a text.
func problem(e api.Errno) string {
	if e == api.OK {
		return ""
	}
	return fmt.Sprintf("!%d", int(e))
}

// either answers what a call answered: its value, or an error, beside which all else must be zero.
func either(value string, zero bool, e api.Errno) string {
	switch {
	case e == api.OK:
		return value
	case !zero:
		return fmt.Sprintf("%q beside %s", value, problem(e))
	}
	return problem(e)
}

// text answers the name or the bytes at a place of w, or none.
func text(w []string, at int) string {
	switch {
	case at >= len(w):
		return ""
	case w[at][0] == '*':
		return string(pattern(number([]string{w[at][1:]}, 0)))
	case w[at][0] == '"':
		s, e := strconv.Unquote(w[at])
		if e != nil {
			panic(w[at])
		}
		return s
	}
	return w[at]
}

func number(w []string, at int) int {
	n, e := strconv.Atoi(w[at])
	if e != nil {
		panic(w[at])
	}
	return n
}

func choice(w []string) []byte {
	var out []byte
	for i := range w {
		out = append(out, byte(number(w, i)))
	}
	return out
}

// called answers a crash with a choice as a text.
func called(choice []byte) string {
	out := "crash"
	for _, c := range choice {
		out += " " + strconv.Itoa(int(c))
	}
	return out
}

// told answers a name, in quotes where it would not be clear.
func told(s string) string {
	if q := strconv.QuoteToASCII(s); len(q) != len(s)+2 || strings.ContainsAny(s, " =*") || s == "" {
		return q
	}
	return s
}

// short answers bytes, or of many bytes how many they are, and a sum of them.
func short(b []byte) string {
	if len(b) <= 30 {
		return strings.Trim(strconv.QuoteToASCII(string(b)), `"`)
	}
	sum := fnv.New64a()
	sum.Write(b)
	return fmt.Sprintf("*%d(%x)", len(b), sum.Sum64())
}

// pattern answers n bytes that hardly repeat.
func pattern(n int) []byte {
	out := make([]byte, n)
	for i := range out {
		out[i] = byte(i ^ i>>8*37 ^ i>>16*91)
	}
	return out
}

// rows answers all rows of up to n of the elements, the shorter ones first.
func rows[T any](elements []T, n int) [][]T {
	out := [][]T{nil}
	last := out
	for range n {
		var next [][]T
		for _, row := range last {
			for _, e := range elements {
				next = append(next, append(append([]T(nil), row...), e))
			}
		}
		out = append(out, next...)
		last = next
	}
	return out
}
