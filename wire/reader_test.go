package wire

import (
	"bytes"
	"math"
	"slices"
	"strconv"
	"strings"
	"testing"

	"moidore/api"
)

func number(n int) string { return strconv.Itoa(n) }

func row(b []byte) string { return strconv.Quote(string(b)) }

// ask is an ask, some bytes that meet it, and what it tells of these and of none, as texts.
type ask struct {
	name, bytes, want, none string
	call                    func(r *Reader) string
}

func asks() []ask {
	hash := "0123456789abcdefghijklmnopqrstuv"
	u8 := func(r *Reader) string { return number(r.U8()) }
	u16 := func(r *Reader) string { return number(r.U16()) }
	u32 := func(r *Reader) string { return number(r.U32()) }
	u64 := func(r *Reader) string { return strconv.FormatUint(r.U64(), 10) }
	i64 := func(r *Reader) string { return strconv.FormatInt(r.I64(), 10) }
	raw := func(n int) func(r *Reader) string { return func(r *Reader) string { return row(r.Raw(n)) } }
	text := func(most int) func(r *Reader) string {
		return func(r *Reader) string { return strconv.Quote(r.Text(most)) }
	}
	count := func(most int) func(r *Reader) string { return func(r *Reader) string { return number(r.Count(most)) } }
	flag := func(r *Reader) string { return strconv.FormatBool(r.Flag()) }
	return []ask{
		{"U8", "\x01", "1", "0", u8},
		{"U8", "\xff", "255", "0", u8},
		{"U16", "\x01\x02", "258", "0", u16},
		{"U16", "\xff\xff", "65535", "0", u16},
		{"U32", "\x01\x02\x03\x04", "16909060", "0", u32},
		{"U32", "\xff\xff\xff\xff", "4294967295", "0", u32},
		{"U64", "\x01\x02\x03\x04\x05\x06\x07\x08", "72623859790382856", "0", u64},
		{"U64", "\xff\xff\xff\xff\xff\xff\xff\xff", "18446744073709551615", "0", u64},
		{"U64", "\x80\x00\x00\x00\x00\x00\x00\x00", "9223372036854775808", "0", u64},
		{"I64", "\x01\x02\x03\x04\x05\x06\x07\x08", "72623859790382856", "0", i64},
		{"I64", "\xff\xff\xff\xff\xff\xff\xff\xff", "-1", "0", i64},
		{"I64", "\x7f\xff\xff\xff\xff\xff\xff\xff", "9223372036854775807", "0", i64},
		{"I64", "\x80\x00\x00\x00\x00\x00\x00\x00", "-9223372036854775808", "0", i64},
		{"Hash", hash, row([]byte(hash)), row(make([]byte, 32)), func(r *Reader) string { h := r.Hash(); return row(h[:]) }},
		{"Raw(1)", "a", `"a"`, `""`, raw(1)},
		{"Raw(5)", "a\x00\xffbc", `"a\x00\xffbc"`, `""`, raw(5)},
		{"Text(0)", "\x00\x00", `""`, `""`, text(0)},
		{"Text(2)", "\x00\x02ab", `"ab"`, `""`, text(2)},
		{"Text(3)", "\x00\x02ab", `"ab"`, `""`, text(3)},
		{"Text(MaxInt)", "\x00\x03\x00\xff\x80", `"\x00\xff\x80"`, `""`, text(math.MaxInt)},
		{"Text(256)", "\x01\x00" + strings.Repeat("z", 256), strconv.Quote(strings.Repeat("z", 256)), `""`, text(256)},
		{"Text(2^16-1)", "\xff\xff" + strings.Repeat("z", 65535), strconv.Quote(strings.Repeat("z", 65535)), `""`, text(65535)},
		{"Flag", "\x01", "true", "false", flag},
		{"Flag", "\x00", "false", "false", flag},
		{"Count(0)", "\x00\x00", "0", "0", count(0)},
		{"Count(258)", "\x01\x02", "258", "0", count(258)},
		{"Count(259)", "\x01\x02", "258", "0", count(259)},
		{"Count(2^16-1)", "\xff\xff", "65535", "0", count(65535)},
		{"Count(2^16)", "\xff\xff", "65535", "0", count(1 << 16)},
		{"Count(MaxInt)", "\xff\xff", "65535", "0", count(math.MaxInt)},
	}
}

// refusedAsks is asks that are not met, each with the bytes that stand next.
func refusedAsks() []ask {
	text := func(most int, b string) ask {
		return ask{"Text(" + number(most) + ") of " + row([]byte(b)), b, "", `""`, func(r *Reader) string { return strconv.Quote(r.Text(most)) }}
	}
	count := func(most int, b string) ask {
		return ask{"Count(" + number(most) + ") of " + row([]byte(b)), b, "", "0", func(r *Reader) string { return number(r.Count(most)) }}
	}
	raw := func(n int, b string) ask {
		return ask{"Raw(" + number(n) + ") of " + row([]byte(b)), b, "", `""`, func(r *Reader) string { return row(r.Raw(n)) }}
	}
	l := []ask{
		raw(-1, ""), raw(-1, "abc"), raw(-2, "abc"), raw(math.MinInt, "abc"), raw(4, "abc"), raw(1, ""), raw(1<<31, "abc"), raw(1<<32, "abc"), raw(1<<32+1, "abc"), raw(math.MaxInt, "abc"), raw(math.MaxInt, ""),
		text(1, "\x00\x02ab"), text(0, "\x00\x01a"), text(-1, "\x00\x00"), text(-1, "\x00\x01a"), text(math.MinInt, "\x00\x00"), text(255, "\x01\x00"+strings.Repeat("a", 256)),
		text(9, "\x00\x03ab"), text(9, "\x00\x01"), text(math.MaxInt, "\xff\xff"+strings.Repeat("a", 65534)), text(math.MaxInt, "\xff\xffab"),
		count(257, "\x01\x02"), count(0, "\x00\x01"), count(1, "\x00\x02"), count(255, "\x01\x00"), count(65534, "\xff\xff"), count(-1, "\x00\x00"), count(-1, "\xff\xff"), count(math.MinInt, "\x00\x00"),
	}
	for b := 2; b < 256; b++ {
		s := string([]byte{byte(b)})
		l = append(l, ask{"Flag of " + row([]byte(s)), s, "", "false", func(r *Reader) string { return strconv.FormatBool(r.Flag()) }})
	}
	return l
}

// wantSpoilt asks whether r is spoilt, with that place, and tells nothing of any ask.
func wantSpoilt(t *testing.T, what string, r *Reader, at int) {
	t.Helper()
	if r.Left() != 0 || r.Err() != api.ErrShape || r.End() {
		t.Errorf("%s: left %d, %v, end %v of what is spoilt", what, r.Left(), r.Err(), r.End())
	}
	for _, a := range asks() {
		if got := a.call(r); got != a.none {
			t.Errorf("%s: %s told %s of what is spoilt", what, a.name, got)
		}
	}
	if b := r.Raw(0); b != nil {
		t.Errorf("%s: Raw(0) told %v of what is spoilt", what, b)
	}
	r.Spoil()
	if r.Left() != 0 || r.Err() != api.ErrShape || r.End() {
		t.Errorf("%s: no longer spoilt", what)
	}
	if r.at != at {
		t.Errorf("%s: the place is %d, not %d", what, r.at, at)
	}
}

// wantLeft asks whether r is not spoilt, and has so many bytes left.
func wantLeft(t *testing.T, what string, r *Reader, left int) {
	t.Helper()
	if r.Left() != left || r.Err() != api.OK || r.End() != (left == 0) {
		t.Errorf("%s: left %d, %v, end %v, not %d", what, r.Left(), r.Err(), r.End(), left)
	}
}

// P2.2, P2.3: each ask where its bytes stand next, at the end, ahead of others, and behind others.
func TestAskMet(t *testing.T) {
	for _, a := range asks() {
		for _, c := range []struct{ ahead, behind string }{{"", ""}, {"", "x"}, {"xyz", ""}, {"xyz", "\x00\x01"}} {
			what := a.name + " ahead of " + row([]byte(c.behind))
			r := NewReader([]byte(c.ahead + a.bytes + c.behind))
			if got := r.Raw(len(c.ahead)); string(got) != c.ahead {
				t.Errorf("%s: %q ahead", what, got)
			}
			wantLeft(t, what, r, len(a.bytes)+len(c.behind))
			if got := a.call(r); got != a.want {
				t.Errorf("%s: %s, not %s", what, got, a.want)
			}
			wantLeft(t, what, r, len(c.behind))
			if got := r.Raw(len(c.behind)); string(got) != c.behind {
				t.Errorf("%s: %q behind", what, got)
			}
			wantLeft(t, what, r, 0)
		}
	}
}

// P2.2: each ask where one byte less is left, and where nothing is.
func TestAskTooFewBytes(t *testing.T) {
	for _, a := range asks() {
		for _, left := range []string{a.bytes[:len(a.bytes)-1], a.bytes[:len(a.bytes)/2], ""} {
			for _, ahead := range []string{"", "xyz"} {
				what := a.name + " of " + number(len(left)) + " bytes"
				r := NewReader([]byte(ahead + left))
				r.Raw(len(ahead))
				if got := a.call(r); got != a.none {
					t.Errorf("%s: %s", what, got)
				}
				wantSpoilt(t, what, r, len(ahead))
			}
		}
	}
}

// P2.2: asks whose bytes may not be; all is left as it is, but that it is spoilt.
func TestAskRefused(t *testing.T) {
	for _, a := range refusedAsks() {
		for _, ahead := range []string{"", "xyz"} {
			r := NewReader([]byte(ahead + a.bytes))
			r.Raw(len(ahead))
			wantLeft(t, a.name, r, len(a.bytes))
			if got := a.call(r); got != a.none {
				t.Errorf("%s: %s", a.name, got)
			}
			wantSpoilt(t, a.name, r, len(ahead))
		}
	}
}

// P2.2: Raw from 0 up to what is left, and one more.
func TestRawLengths(t *testing.T) {
	b := []byte("some bytes, and some more")
	for from := range len(b) + 1 {
		for n := range len(b) - from + 1 {
			r := NewReader(b)
			r.Raw(from)
			if got := r.Raw(n); !bytes.Equal(got, b[from:from+n]) {
				t.Errorf("%d from %d: %q", n, from, got)
			}
			wantLeft(t, "Raw", r, len(b)-from-n)
		}
		r := NewReader(b)
		r.Raw(from)
		if got := r.Raw(len(b) - from + 1); got != nil {
			t.Errorf("one too many from %d: %q", from, got)
		}
		wantSpoilt(t, "one too many", r, from)
	}
}

// P2.2: Raw(0) is met wherever it stands, also at the end.
func TestRawOfNone(t *testing.T) {
	for _, b := range [][]byte{nil, {}, {1}} {
		r := NewReader(b)
		for range 3 {
			if got := r.Raw(0); len(got) != 0 {
				t.Errorf("%v", got)
			}
			wantLeft(t, "Raw(0)", r, len(b))
		}
	}
}

// P2.2: Text and Count with each most about the number that stands there.
func TestMost(t *testing.T) {
	for _, n := range []int{0, 1, 2, 255, 256, 257, 65534, 65535} {
		long := strings.Repeat("m", n)
		b := slices.Concat([]byte{byte(n >> 8), byte(n)}, []byte(long))
		for _, most := range []int{math.MinInt, -65536, -1, 0, 1, n - 1, n, n + 1, 65535, 65536, math.MaxInt} {
			what := number(n) + " at most " + number(most)
			texts, counts := NewReader(b), NewReader(b)
			text, count := texts.Text(most), counts.Count(most)
			if n > most {
				if text != "" || count != 0 {
					t.Errorf("%s: told %q and %d", what, text, count)
				}
				wantSpoilt(t, what, texts, 0)
				wantSpoilt(t, what, counts, 0)
				continue
			}
			if text != long || count != n {
				t.Errorf("%s: %q and %d", what, text, count)
			}
			wantLeft(t, what, texts, 0)
			wantLeft(t, what, counts, n)
		}
	}
}

// P2.2, P2.3: Spoil, at each place, and what spoils one reader spoils no other one.
func TestSpoilReader(t *testing.T) {
	b := []byte("\x00\x02abc")
	for at := range len(b) + 1 {
		r, other := NewReader(b), NewReader(b)
		r.Raw(at)
		r.Spoil()
		wantSpoilt(t, "spoilt at "+number(at), r, at)
		wantLeft(t, "the other one", other, len(b))
	}
}

// P2.3: a reader of nothing is at its end.
func TestReaderOfNothing(t *testing.T) {
	for _, b := range [][]byte{nil, {}} {
		wantLeft(t, "nothing", NewReader(b), 0)
		r := NewReader(b)
		r.U8()
		wantSpoilt(t, "a number of nothing", r, 0)
	}
}

// R3: NewReader changes nothing of what it is given, and does not keep it.
func TestReaderLeavesBytes(t *testing.T) {
	all := []byte("\x01\x02\x00\x03abcraw bytes, and what stands behind")
	was := bytes.Clone(all)
	r := NewReader(all[:16])
	if r.U16() != 258 || !bytes.Equal(all, was) {
		t.Error("bytes are changed")
	}
	clear(all)
	if s, b := r.Text(3), r.Raw(9); s != "abc" || string(b) != "raw bytes" || !r.End() {
		t.Errorf("%q and %q", s, b)
	}
	if !bytes.Equal(all, make([]byte, len(all))) {
		t.Error("bytes are changed by an ask")
	}
}

// R3: what Raw tells is new memory.
func TestRawIsNew(t *testing.T) {
	b := []byte("first second")
	r := NewReader(b)
	first := r.Raw(5)
	first = append(first, "!!!!!!!!!!"...)
	clear(first)
	if got := r.Raw(7); string(got) != " second" || string(b) != "first second" {
		t.Errorf("%q of %q", got, b)
	}
	r = NewReader(b)
	first = r.Raw(5)
	clear(first[:cap(first)])
	second := r.Raw(7)
	clear(second[:cap(second)])
	if string(b) != "first second" || !bytes.Equal(first, make([]byte, 5)) {
		t.Errorf("%q of %q", first, b)
	}
	texts := NewReader([]byte("\x00\x01a\x00\x01b"))
	a := texts.Text(1)
	if texts.Text(1) != "b" || a != "a" {
		t.Error("texts")
	}
}

// R5: a nil reader, and those that NewReader did not answer.
func TestNoReader(t *testing.T) {
	used := NewReader([]byte("\x00\x00 and much more than any ask takes, so that each of them would be met"))
	copied := *used
	spoilt := NewReader(nil)
	spoilt.Spoil()
	copiedSpoilt := *spoilt
	for _, c := range []struct {
		name string
		r    *Reader
	}{{"nil", nil}, {"zero", &Reader{}}, {"a copy", &copied}, {"a copy of a spoilt one", &copiedSpoilt}} {
		for _, spoils := range []bool{false, true} {
			for _, a := range slices.Concat(asks(), refusedAsks()) {
				if got := a.call(c.r); got != a.none {
					t.Errorf("%s: %s told %s", c.name, a.name, got)
				}
			}
			if b := c.r.Raw(0); b != nil {
				t.Errorf("%s: Raw(0) told %v", c.name, b)
			}
			if c.r.Left() != 0 || c.r.Err() != api.ErrNil || c.r.End() {
				t.Errorf("%s: left %d, %v, end %v", c.name, c.r.Left(), c.r.Err(), c.r.End())
			}
			if !spoils {
				c.r.Spoil()
			}
		}
		if c.r != nil && (c.r.at != 0 || c.r.spoilt != (c.r == &copiedSpoilt)) {
			t.Errorf("%s is changed", c.name)
		}
	}
	wantLeft(t, "the copied one", used, len(used.b))
}

// R5: a reader stays one, wherever it is handed.
func TestReaderThroughOthers(t *testing.T) {
	type holds struct{ *Reader }
	r := NewReader([]byte{1, 2})
	h := holds{r}
	again := h
	if again.U8() != 1 || h.U8() != 2 || !r.End() {
		t.Error("held by another one")
	}
}
