// Package fixed is layer 1: little-endian integers of 1 to 8 bytes and strings of up to 255 bytes, put behind bytes and read back. See shared/doc/01-fixed.md.
package fixed

const (
	maxSize = 8
	maxText = 255
)

// Put answers the bytes of b followed by n modulo 256^size in size bytes, the least significant one first; or the bytes of b alone, if size is not from 1 to 8.
func Put(b []byte, n uint64, size int) []byte {
	if !isSize(size) {
		return extended(b, 0)
	}
	out := extended(b, size)
	for range size {
		out = append(out, byte(n))
		n >>= 8
	}
	return out
}

// Take answers the number in the size bytes of b from index at on, and whether they are there.
func Take(b []byte, at, size int) (uint64, bool) {
	if !isSize(size) || !holds(b, at, size) {
		return 0, false
	}
	var n uint64
	for i := range size {
		n |= uint64(b[at+i]) << (8 * i)
	}
	return n, true
}

// PutText answers the bytes of b followed by the length of s in one byte and by s; or the bytes of b alone and false, if s has more than 255 bytes.
func PutText(b []byte, s string) ([]byte, bool) {
	if len(s) > maxText {
		return extended(b, 0), false
	}
	out := extended(b, 1+len(s))
	out = append(out, byte(len(s)))
	return append(out, s...), true
}

// TakeText answers the string that PutText wrote at index at, the index behind it, and whether it is there whole.
func TakeText(b []byte, at int) (string, int, bool) {
	length, ok := Take(b, at, 1)
	if !ok || !holds(b, at+1, int(length)) {
		return "", 0, false
	}
	end := at + 1 + int(length)
	return string(b[at+1 : end]), end, true
}

// isSize tells whether an integer may have so many bytes.
func isSize(size int) bool { return size >= 1 && size <= maxSize }

// holds tells whether b has size bytes from index at on. It subtracts, because at + size may exceed the greatest int.
func holds(b []byte, at, size int) bool { return at >= 0 && at <= len(b)-size }

// extended answers a copy of b with room for more bytes. A copy, because two calls that append to one b would otherwise write into the same room behind it, and the second would change what the first answered.
func extended(b []byte, more int) []byte {
	out := make([]byte, len(b), len(b)+more)
	copy(out, b)
	return out
}
