package run_test

import (
	"bytes"
	"crypto/sha256"
	"fmt"
	"testing"

	"moidore/api"
)

// row is so many bytes, which differ, from one on.
func row(from, many int) string {
	b := make([]byte, many)
	for i := range b {
		b[i] = byte(from + i)
	}
	return string(b)
}

// P10.1: bytes that are put together: up to 200, above that it fails.
func TestCat(t *testing.T) {
	for _, a := range []int{0, 1, 2, 99, 100, 101, 198, 199, 200} {
		for _, b := range []int{0, 1, 2, 99, 100, 101, 198, 199, 200} {
			x, y := row(1, a), row(100, b)
			if name := fmt.Sprintf("%d and %d bytes", a, b); a+b <= 200 {
				wantGives(t, name, op(api.OpCat), x+y, x, y)
			} else {
				wantFails(t, name, op(api.OpCat), x, y)
			}
		}
	}
}

// P10.1: bytes that are cut: what is there, from its beginning to its end; else it fails, also where the numbers' sum is no int.
func TestCut(t *testing.T) {
	edges := []int64{least, least + 1, -1 << 32, -200, -2, -1, 0, 1, 2, 3, 4, 5, 99, 100, 101, 198, 199, 200, 201, 1<<32 - 1, 1 << 32, 1<<32 + 1, most - 200, most - 1, most}
	gave, failed := 0, 0
	for _, long := range []int64{0, 1, 2, 4, 100, 199, 200} {
		s := row(3, int(long))
		for _, from := range edges {
			for _, many := range edges {
				name := fmt.Sprintf("of %d bytes %d from %d on", long, many, from)
				if from >= 0 && many >= 0 && from <= long && many <= long && from+many <= long {
					wantGives(t, name, op(api.OpCut), s[from:from+many], s, from, many)
					gave++
				} else {
					wantFails(t, name, op(api.OpCut), s, from, many)
					failed++
				}
			}
		}
	}
	if gave < 100 || failed < 1000 {
		t.Errorf("%d gave, %d failed", gave, failed)
	}
	wantGives(t, "cd of abcdef", op(api.OpCut), "cd", "abcdef", int64(2), int64(2))
	wantGives(t, "none, at the end", op(api.OpCut), "", "abcdef", int64(6), int64(0))
	wantFails(t, "none, behind the end", op(api.OpCut), "abcdef", int64(7), int64(0))
	wantFails(t, "one, at the end", op(api.OpCut), "abcdef", int64(6), int64(1))
	wantFails(t, "a sum that wraps round", op(api.OpCut), "abcdef", int64(most), int64(most))
	wantFails(t, "a sum that wraps round to 0", op(api.OpCut), "abcdef", int64(least), int64(least))
}

// P10.1: how many bytes, and the hash of them.
func TestLongSum(t *testing.T) {
	for n := range 201 {
		s := row(n, n)
		h := sha256.Sum256([]byte(s))
		wantGives(t, "how many", op(api.OpLong), int64(n), s)
		wantGives(t, "the hash", op(api.OpSum), string(h[:]), s)
	}
	wantGives(t, "the hash of abc", op(api.OpSum), "\xba\x78\x16\xbf\x8f\x01\xcf\xea\x41\x41\x40\xde\x5d\xae\x22\x23\xb0\x03\x61\xa3\x96\x17\x7a\x9c\xb4\x10\xff\x61\xf2\x00\x15\xad", "abc")
	wantGives(t, "how many of the bytes of a letter", op(api.OpLong), int64(2), "ä")
}

// P10.1: bytes are held against each other byte by byte, each from 0 to 255; one that ends stands ahead.
func TestHeld(t *testing.T) {
	l := []string{"", "\x00", "\x00\x00", "\x00\x01", "\x01", "\x7f", "\x80", "\xff", "\xff\x00", "\xff\xff", "a", "aa", "ab", "b", "ä", "z\xc3", z(199), z(200), z(199) + "a", row(0, 200), row(1, 200), row(0, 199)}
	for _, a := range l {
		for _, b := range l {
			name := fmt.Sprintf("%q, %q", a, b)
			wantGives(t, "whether below: "+name, op(api.OpBytesLess), bytes.Compare([]byte(a), []byte(b)) < 0, a, b)
			wantGives(t, "whether the same: "+name, op(api.OpBytesSame), a == b, a, b)
		}
	}
	for _, x := range []struct {
		a, b string
		less bool
	}{{"", "a", true}, {"a", "", false}, {"a", "ab", true}, {"ab", "b", true}, {"b", "ab", false}, {"\x7f", "\x80", true}, {"\xff", "\x00", false}, {"a", "a", false}} {
		wantGives(t, "whether below", op(api.OpBytesLess), x.less, x.a, x.b)
	}
}

// P10.1: bools, all of them.
func TestBools(t *testing.T) {
	for _, a := range []bool{false, true} {
		wantGives(t, "not", op(api.OpNot), !a, a)
		for _, b := range []bool{false, true} {
			wantGives(t, "and", op(api.OpAnd), a && b, a, b)
			wantGives(t, "or", op(api.OpOr), a || b, a, b)
		}
	}
}
