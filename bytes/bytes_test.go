package bytes

import (
	"math"
	"math/big"
	"math/rand"
	"slices"
	"strings"
	"testing"

	"pannier/api"
)

const top = math.MaxUint64

// numbers are those around each change of how many bytes a number has, and some others.
func numbers() []uint64 {
	out := []uint64{0, 1, 2, 5, 100, 254, 255, 256, 300, 65535, api.MaxCounter, math.MaxInt64, math.MaxInt64 + 1, 0x0102030405060708, 0xaaaaaaaaaaaaaaaa, top - 1, top}
	for k := 1; k <= 9; k++ {
		limit := uint64(1) << (7 * k)
		out = append(out, limit-1, limit, limit+1, limit/2)
	}
	return out
}

// written is the bytes of a number, by the definition: its groups, until none but zeros follow.
func written(n uint64) []byte {
	groups := new(big.Int).SetUint64(n)
	var out []byte
	for len(out) == 0 || groups.Sign() > 0 {
		rest := new(big.Int)
		groups.QuoRem(groups, big.NewInt(128), rest)
		out = append(out, 128+byte(rest.Int64()))
	}
	out[len(out)-1] -= 128
	return out
}

// read is the number that bytes begin with, how many of them are its own, and the error, by the definition.
func read(b []byte, most uint64) (uint64, int, api.Errno) {
	looked := b[:min(len(b), 10)]
	last := slices.IndexFunc(looked, func(x byte) bool { return x < 128 })
	if last < 0 && len(looked) < 10 {
		return 0, 0, api.ErrShort
	}
	if last < 0 || last > 0 && b[last] == 0 {
		return 0, 0, api.ErrMalformed
	}
	n := new(big.Int)
	for i := last; i >= 0; i-- {
		n.Mul(n, big.NewInt(128)).Add(n, big.NewInt(int64(b[i]%128)))
	}
	if !n.IsUint64() {
		return 0, 0, api.ErrMalformed
	}
	if n.Uint64() > most {
		return 0, 0, api.ErrRange
	}
	return n.Uint64(), last + 1, api.OK
}

// text is the string that bytes begin with, how many of them are its own, and the error, by the definition.
func text(b []byte, most int) (string, int, api.Errno) {
	n, size, e := read(b, top)
	switch {
	case e != api.OK:
		return "", 0, e
	case most < 0 || n > uint64(most):
		return "", 0, api.ErrLong
	case n > uint64(len(b)-size):
		return "", 0, api.ErrShort
	default:
		return string(b[size : size+int(n)]), size + int(n), api.OK
	}
}

// lists are all lists of at most some bytes out of a few, behind nothing or behind some bytes that go on.
func lists(most int, few ...byte) [][]byte {
	out := [][]byte{nil}
	for from, n := 0, 0; n < most; n++ {
		to := len(out)
		for _, l := range out[from:to] {
			for _, b := range few {
				out = append(out, append(slices.Clone(l), b))
			}
		}
		from = to
	}
	short := len(out)
	for _, b := range []byte{128, 129, 255} {
		for k := 1; k <= 11; k++ {
			for _, l := range out[:short] {
				out = append(out, append(slices.Repeat([]byte{b}, k), l...))
			}
		}
	}
	return out
}

// cat is some lists of bytes, one behind the other.
func cat(l ...[]byte) []byte { return slices.Concat(l...) }

// of is n times a byte, and then some bytes.
func of(n int, b byte, then ...byte) []byte { return append(slices.Repeat([]byte{b}, n), then...) }

// P4.1: the bytes of single numbers, among them the least and the greatest ones of each size.
func TestNumAndSize(t *testing.T) {
	for _, c := range []struct {
		n    uint64
		want []byte
	}{
		{0, []byte{0}}, {1, []byte{1}}, {127, []byte{127}}, {128, []byte{128, 1}}, {129, []byte{129, 1}}, {255, []byte{255, 1}}, {256, []byte{128, 2}}, {300, []byte{172, 2}},
		{1<<14 - 1, []byte{255, 127}}, {1 << 14, []byte{128, 128, 1}}, {1<<21 - 1, of(2, 255, 127)}, {1 << 21, of(3, 128, 1)}, {api.MaxCounter, of(4, 255, 15)},
		{1<<56 - 1, of(7, 255, 127)}, {1 << 56, of(8, 128, 1)}, {1<<63 - 1, of(8, 255, 127)}, {1 << 63, of(9, 128, 1)}, {top - 1, cat([]byte{254}, of(8, 255, 1))}, {top, of(9, 255, 1)},
	} {
		var w Writer
		w.Num(c.n)
		if b := w.Bytes(); !slices.Equal(b, c.want) || w.Len() != len(c.want) || Size(c.n) != len(c.want) {
			t.Error(c, b, w.Len(), Size(c.n))
		}
	}
	for _, n := range numbers() {
		var w Writer
		w.Num(n)
		if want := written(n); !slices.Equal(w.Bytes(), want) || w.Len() != len(want) || Size(n) != len(want) {
			t.Error(n, w.Bytes(), Size(n))
		}
	}
}

// P4.1: Size changes just above the greatest number of each size.
func TestSize(t *testing.T) {
	for k := 1; k <= 9; k++ {
		if n := uint64(1) << (7 * k); Size(n-1) != k || Size(n) != k+1 {
			t.Error(k, Size(n-1), Size(n))
		}
	}
	if Size(0) != 1 || Size(top) != 10 {
		t.Error(Size(0), Size(top))
	}
}

// P4.1: strings of all bytes and of lengths with one, two and three bytes.
func TestWriteString(t *testing.T) {
	for _, c := range []struct {
		s    string
		want []byte
	}{
		{"", []byte{0}}, {"ab", []byte{2, 97, 98}}, {"\x00", []byte{1, 0}}, {"\xff\x80", []byte{2, 255, 128}}, {"é", []byte{2, 195, 169}}, {"a\x00b", []byte{3, 97, 0, 98}},
	} {
		var w Writer
		w.String(c.s)
		if b := w.Bytes(); !slices.Equal(b, c.want) || w.Len() != len(c.want) {
			t.Error(c, b)
		}
	}
	for _, size := range []int{1, 127, 128, 129, 255, 256, 300, 1<<14 - 1, 1 << 14, 70000} {
		s := strings.Repeat("\x80\x00\xffz", size/4+1)[:size]
		var w Writer
		w.String(s)
		if b := w.Bytes(); string(b) != string(written(uint64(size)))+s || w.Len() != Size(uint64(size))+size {
			t.Error(size, w.Len())
		}
	}
}

// P4.1: each method writes behind what was written before, Put without a length.
func TestWriteOneAfterTheOther(t *testing.T) {
	var w Writer
	var want []byte
	for i, c := range []struct {
		write func()
		more  []byte
	}{
		{func() { w.Put(nil) }, nil}, {func() { w.Num(300) }, []byte{172, 2}}, {func() { w.Num(0) }, []byte{0}}, {func() { w.String("ab") }, []byte{2, 97, 98}},
		{func() { w.Put([]byte{7, 0, 255, 128}) }, []byte{7, 0, 255, 128}}, {func() { w.Put([]byte{}) }, nil}, {func() { w.String("") }, []byte{0}}, {func() { w.Num(top) }, of(9, 255, 1)},
		{func() { w.Put(w.Bytes()) }, cat([]byte{172, 2, 0, 2, 97, 98, 7, 0, 255, 128, 0}, of(9, 255, 1))}, {func() { w.Num(5) }, []byte{5}},
	} {
		c.write()
		want = append(want, c.more...)
		if b := w.Bytes(); !slices.Equal(b, want) || w.Len() != len(want) {
			t.Error(i, b, w.Len())
		}
	}
}

// P4.1: a zero writer has no bytes and is ready for use, a nil one stays without any.
func TestNilAndZeroWriters(t *testing.T) {
	zero := new(Writer)
	if zero.Len() != 0 || len(zero.Bytes()) != 0 {
		t.Error(zero.Len(), zero.Bytes())
	}
	zero.Num(5)
	if zero.Len() != 1 || !slices.Equal(zero.Bytes(), []byte{5}) {
		t.Error(zero.Len(), zero.Bytes())
	}
	var none *Writer
	for _, write := range []func(){func() { none.Num(0) }, func() { none.Num(top) }, func() { none.String("") }, func() { none.String("ab") }, func() { none.Put(nil) }, func() { none.Put([]byte{1}) }} {
		write()
		if none.Len() != 0 || len(none.Bytes()) != 0 {
			t.Error(none.Len(), none.Bytes())
		}
	}
}

// checkNum reads a number in the middle of bytes, and compares it with the definition.
func checkNum(t *testing.T, b []byte, most uint64) {
	t.Helper()
	r := New(cat([]byte{9, 9}, b))
	r.Take(2)
	want, size, f := read(b, most)
	if n, e := r.Num(most); n != want || e != f || r.At() != 2+size || r.Left() != len(b)-size {
		t.Fatal(b, most, n, e, r.At(), r.Left())
	}
}

// P4.2: the cases that the document names, each with the bytes that are left.
func TestReadNum(t *testing.T) {
	for _, c := range []struct {
		b    []byte
		most uint64
		n    uint64
		e    api.Errno
	}{
		{[]byte{0}, 0, 0, api.OK}, {[]byte{0}, top, 0, api.OK}, {[]byte{127}, 127, 127, api.OK}, {[]byte{127, 128}, 127, 127, api.OK}, {[]byte{172, 2, 5}, 1000, 300, api.OK}, {[]byte{172, 2}, 300, 300, api.OK},
		{[]byte{255, 1}, 255, 255, api.OK}, {of(9, 255, 1), top, top, api.OK}, {of(9, 255, 1, 255), top, top, api.OK}, {of(9, 128, 1), 1 << 63, 1 << 63, api.OK}, {of(8, 255, 127), top, 1<<63 - 1, api.OK}, {[]byte{0, 0}, 5, 0, api.OK},
		// Cut off: the number goes on, and there are fewer than ten bytes.
		{nil, 9, 0, api.ErrShort}, {[]byte{}, 0, 0, api.ErrShort}, {[]byte{128}, 9, 0, api.ErrShort}, {[]byte{172}, 0, 0, api.ErrShort}, {of(9, 255), 9, 0, api.ErrShort}, {of(9, 128), top, 0, api.ErrShort}, {of(8, 255), top, 0, api.ErrShort},
		// Ten bytes, all of which say that another one follows.
		{of(10, 255), top, 0, api.ErrMalformed}, {of(10, 128), top, 0, api.ErrMalformed}, {of(10, 128, 1), top, 0, api.ErrMalformed}, {of(11, 255), 0, 0, api.ErrMalformed}, {of(10, 255, 0), 9, 0, api.ErrMalformed},
		// Not the shortest bytes, also if the number is above the maximum.
		{[]byte{128, 0}, 9, 0, api.ErrMalformed}, {[]byte{255, 0}, 200, 0, api.ErrMalformed}, {[]byte{255, 0}, 9, 0, api.ErrMalformed}, {[]byte{128, 128, 0}, 9, 0, api.ErrMalformed}, {of(9, 128, 0), 9, 0, api.ErrMalformed}, {of(9, 255, 0), top, 0, api.ErrMalformed},
		// Above 2^64 - 1.
		{of(9, 128, 2), top, 0, api.ErrMalformed}, {of(9, 255, 2), top, 0, api.ErrMalformed}, {of(9, 255, 3), top, 0, api.ErrMalformed}, {of(9, 128, 127), 0, 0, api.ErrMalformed}, {of(9, 128, 64), top, 0, api.ErrMalformed},
		// Above the maximum.
		{[]byte{1}, 0, 0, api.ErrRange}, {[]byte{10}, 9, 0, api.ErrRange}, {[]byte{172, 2}, 299, 0, api.ErrRange}, {[]byte{172, 2}, 0, 0, api.ErrRange}, {of(9, 255, 1), top - 1, 0, api.ErrRange}, {of(9, 128, 1), 1<<63 - 1, 0, api.ErrRange},
	} {
		r := New(c.b)
		if n, e := r.Num(c.most); n != c.n || e != c.e {
			t.Error(c, n, e)
		}
		if c.e != api.OK && (r.At() != 0 || r.Left() != len(c.b)) {
			t.Error(c, "has read", r.At())
		}
		checkNum(t, c.b, c.most)
	}
}

// P4.2: all bytes of short lists and of long ones that begin with bytes that go on, with maxima around what is read.
func TestReadNumOfAll(t *testing.T) {
	for a := range 256 {
		for b := range 256 {
			for _, most := range []uint64{0, 127, 300, top} {
				checkNum(t, []byte{byte(a), byte(b)}, most)
			}
		}
	}
	for _, b := range lists(4, 0, 1, 2, 127, 128, 255) {
		n, _, _ := read(b, top)
		for _, most := range []uint64{0, n - 1, n, n + 1, top} {
			checkNum(t, b, most)
		}
	}
}

// P4.2: strings with lengths that are allowed, and what is wrong with others, in the order of the errors.
func TestReadString(t *testing.T) {
	for _, c := range []struct {
		b    []byte
		most int
		s    string
		at   int
		e    api.Errno
	}{
		{[]byte{2, 97, 98}, 5, "ab", 3, api.OK}, {[]byte{2, 97, 98}, 2, "ab", 3, api.OK}, {[]byte{2, 97, 98, 99}, math.MaxInt, "ab", 3, api.OK}, {[]byte{0}, 0, "", 1, api.OK}, {[]byte{0, 7}, 5, "", 1, api.OK}, {[]byte{1, 0}, 1, "\x00", 2, api.OK}, {[]byte{2, 255, 128}, 2, "\xff\x80", 3, api.OK},
		// The length is too great, whether so many bytes are left or not.
		{[]byte{2, 97, 98}, 1, "", 0, api.ErrLong}, {[]byte{2, 97, 98}, 0, "", 0, api.ErrLong}, {[]byte{1, 97}, 0, "", 0, api.ErrLong}, {[]byte{2}, 1, "", 0, api.ErrLong}, {[]byte{3, 97}, 2, "", 0, api.ErrLong},
		{of(9, 255, 1), 5, "", 0, api.ErrLong}, {of(9, 255, 1), math.MaxInt, "", 0, api.ErrLong}, {of(9, 128, 1), math.MaxInt, "", 0, api.ErrLong},
		// A maximum below 0, also of a string without bytes.
		{[]byte{0}, -1, "", 0, api.ErrLong}, {[]byte{0}, math.MinInt, "", 0, api.ErrLong}, {[]byte{2, 97, 98}, -1, "", 0, api.ErrLong}, {of(9, 255, 1), -1, "", 0, api.ErrLong}, {of(8, 255, 127), math.MinInt, "", 0, api.ErrLong},
		// Too few bytes are left.
		{[]byte{2, 97}, 5, "", 0, api.ErrShort}, {[]byte{2}, 2, "", 0, api.ErrShort}, {[]byte{1}, 1, "", 0, api.ErrShort}, {of(8, 255, 127), math.MaxInt, "", 0, api.ErrShort}, {of(8, 255, 126, 97), math.MaxInt, "", 0, api.ErrShort}, {[]byte{255, 255, 255, 255, 15, 1, 2}, math.MaxInt, "", 0, api.ErrShort},
		// What is wrong with the number of the length comes first.
		{nil, 5, "", 0, api.ErrShort}, {nil, -1, "", 0, api.ErrShort}, {[]byte{128}, -1, "", 0, api.ErrShort}, {[]byte{128}, 5, "", 0, api.ErrShort}, {[]byte{128, 0}, 5, "", 0, api.ErrMalformed}, {[]byte{130, 0, 97, 98}, -1, "", 0, api.ErrMalformed}, {of(9, 255, 2), -1, "", 0, api.ErrMalformed}, {of(10, 255), 0, "", 0, api.ErrMalformed}, {of(9, 255), 0, "", 0, api.ErrShort},
	} {
		r := New(c.b)
		if s, e := r.String(c.most); s != c.s || e != c.e || r.At() != c.at || r.Left() != len(c.b)-c.at {
			t.Error(c, s, e, r.At())
		}
	}
	for _, b := range lists(4, 0, 1, 2, 3, 128, 255) {
		for _, most := range []int{math.MinInt, -1, 0, 1, 2, 3, 127, 128, math.MaxInt} {
			want, size, f := text(b, most)
			r := New(cat([]byte{9, 9}, b))
			r.Take(2)
			if s, e := r.String(most); s != want || e != f || r.At() != 2+size || r.Left() != len(b)-size {
				t.Fatal(b, most, s, e, r.At())
			}
		}
	}
}

// P4.2: strings whose lengths have two and three bytes.
func TestReadLongStrings(t *testing.T) {
	for _, size := range []int{127, 128, 300, 1 << 14, 70000} {
		s := strings.Repeat("\x80\x00\xffz", size/4+1)[:size]
		b := cat(written(uint64(size)), []byte(s))
		for _, c := range []struct {
			cut, most int
			e         api.Errno
		}{{0, size, api.OK}, {0, size + 1, api.OK}, {0, size - 1, api.ErrLong}, {1, size, api.ErrShort}, {size, size, api.ErrShort}, {1, size - 1, api.ErrLong}} {
			r := New(b[:len(b)-c.cut])
			x, e := r.String(c.most)
			if e != c.e || e == api.OK && (x != s || r.End() != api.OK) || e != api.OK && (x != "" || r.At() != 0) {
				t.Error(size, c, len(x), e)
			}
		}
	}
}

// P4.2: some bytes as they are, none, all, and more than there are.
func TestTake(t *testing.T) {
	b := []byte{7, 8, 0, 255, 128}
	for before := range len(b) + 1 {
		for _, n := range []int{math.MinInt, -6, -5, -1, 0, 1, 2, 3, 4, 5, 6, 1 << 40, math.MaxInt - 1, math.MaxInt} {
			var want []byte
			var f api.Errno
			switch {
			case n < 0:
				f = api.ErrArg
			case n > len(b)-before:
				f = api.ErrShort
			default:
				want = b[before : before+n]
			}
			r := New(b)
			r.Take(before)
			if x, e := r.Take(n); !slices.Equal(x, want) || e != f || r.At() != before+len(want) || r.Left() != len(b)-r.At() {
				t.Error(before, n, x, e, r.At())
			}
		}
	}
}

// P4.2 and the errors: with an error nothing is read, so that the same bytes can be read otherwise.
func TestNothingIsReadWithAnError(t *testing.T) {
	r := New([]byte{172, 2, 5, 2, 97, 98})
	for i, c := range []struct {
		e  api.Errno
		do func() api.Errno
		at int
	}{
		{api.OK, func() api.Errno { _, e := r.Num(1000); return e }, 2}, {api.ErrRange, func() api.Errno { _, e := r.Num(4); return e }, 2}, {api.ErrLong, func() api.Errno { _, e := r.String(4); return e }, 2},
		{api.ErrShort, func() api.Errno { _, e := r.String(5); return e }, 2}, {api.ErrArg, func() api.Errno { _, e := r.Take(-1); return e }, 2}, {api.ErrShort, func() api.Errno { _, e := r.Take(5); return e }, 2},
		{api.ErrMalformed, func() api.Errno { return r.End() }, 2}, {api.OK, func() api.Errno { _, e := r.Num(5); return e }, 3}, {api.ErrLong, func() api.Errno { _, e := r.String(1); return e }, 3},
		{api.OK, func() api.Errno { _, e := r.String(2); return e }, 6}, {api.ErrShort, func() api.Errno { _, e := r.Num(9); return e }, 6}, {api.ErrShort, func() api.Errno { _, e := r.String(9); return e }, 6},
		{api.ErrShort, func() api.Errno { _, e := r.Take(1); return e }, 6}, {api.ErrArg, func() api.Errno { _, e := r.Take(-1); return e }, 6}, {api.OK, func() api.Errno { _, e := r.Take(0); return e }, 6}, {api.OK, func() api.Errno { return r.End() }, 6},
	} {
		for range 2 {
			if e := c.do(); e != c.e || r.At() != c.at || r.Left() != 6-c.at {
				t.Error(i, e, r.At(), r.Left())
			}
			// What was read is read once only.
			if c.e == api.OK {
				break
			}
		}
	}
}

// P4.3: Left, At and End, from the first byte to the last one.
func TestLeftAtEnd(t *testing.T) {
	b := of(5, 3)
	r := New(b)
	for i := range len(b) {
		if r.Left() != len(b)-i || r.At() != i || r.End() != api.ErrMalformed {
			t.Error(i, r.Left(), r.At(), r.End())
		}
		r.Num(3)
	}
	if r.Left() != 0 || r.At() != len(b) || r.End() != api.OK {
		t.Error(r.Left(), r.At(), r.End())
	}
	for _, b := range [][]byte{nil, {}} {
		if r := New(b); r == nil || r.Left() != 0 || r.At() != 0 || r.End() != api.OK {
			t.Error(r)
		}
	}
}

// P4.3: a copy and its reader go on independently, wherever it was made.
func TestCopy(t *testing.T) {
	b := []byte{1, 2, 3, 4}
	for at := range len(b) + 1 {
		r := New(b)
		r.Take(at)
		c := r.Copy()
		d := c.Copy()
		if c == r || c.At() != at || c.Left() != len(b)-at || c.End() != r.End() {
			t.Fatal(at, c)
		}
		rest, e := r.Take(len(b) - at)
		if !slices.Equal(rest, b[at:]) || e != api.OK || r.End() != api.OK || c.At() != at || d.At() != at {
			t.Error(at, rest, e, c.At(), d.At())
		}
		for i := at; i < len(b); i++ {
			if n, e := c.Num(9); n != uint64(b[i]) || e != api.OK || c.At() != i+1 || d.At() != at || r.At() != len(b) {
				t.Error(at, i, n, e)
			}
		}
		if rest, e := d.Take(len(b) - at); !slices.Equal(rest, b[at:]) || e != api.OK || d.End() != api.OK {
			t.Error(at, rest, e)
		}
	}
	if c := New(nil).Copy(); c == nil || c.End() != api.OK || c.Left() != 0 || c.At() != 0 {
		t.Error(c)
	}
}

// P4.2, P4.3: nil and zero readers, whatever the arguments are.
func TestNilAndZeroReaders(t *testing.T) {
	for i, r := range []*Reader{nil, {}} {
		for _, n := range []int{math.MinInt, -1, 0, 1, math.MaxInt} {
			x, e := r.Num(uint64(n))
			s, f := r.String(n)
			b, g := r.Take(n)
			if x != 0 || e != api.ErrNil || s != "" || f != api.ErrNil || len(b) != 0 || g != api.ErrNil {
				t.Error(i, n, x, e, s, f, b, g)
			}
		}
		if r.Left() != 0 || r.At() != 0 || r.End() != api.ErrNil || r.Copy() != nil {
			t.Error(i, r.Left(), r.At(), r.End(), r.Copy())
		}
	}
}

// part is something that is written, and the way it is read again.
type part struct {
	kind byte
	n    uint64
	s    string
}

func (p part) write(w *Writer) {
	switch p.kind {
	case 'n':
		w.Num(p.n)
	case 's':
		w.String(p.s)
	default:
		w.Put([]byte(p.s))
	}
}

// again reads the part, and reports whether it was that.
func (p part) again(r *Reader) bool {
	switch p.kind {
	case 'n':
		n, e := r.Num(p.n)
		return n == p.n && e == api.OK
	case 's':
		s, e := r.String(len(p.s))
		return s == p.s && e == api.OK
	default:
		b, e := r.Take(len(p.s))
		return string(b) == p.s && e == api.OK
	}
}

// parts are some parts, always the same ones with a seed.
func parts(seed int64) []part {
	random, all := rand.New(rand.NewSource(seed)), numbers()
	out := make([]part, random.Intn(12))
	for i := range out {
		b := make([]byte, []int{0, 1, 3, 127, 128, 200}[random.Intn(6)])
		random.Read(b)
		out[i] = part{"nsp"[random.Intn(3)], all[random.Intn(len(all))] >> random.Intn(3), string(b)}
	}
	return out
}

// P4.4: what was written is read again, in the same order; At and Left are together the number of bytes.
func TestWrittenIsRead(t *testing.T) {
	for seed := range int64(2000) {
		var w Writer
		l := parts(seed)
		var ends []int
		for _, p := range l {
			p.write(&w)
			ends = append(ends, w.Len())
		}
		r := New(w.Bytes())
		for i, p := range l {
			if !p.again(r) || r.At() != ends[i] || r.At()+r.Left() != w.Len() {
				t.Fatal(seed, i, p, r.At())
			}
		}
		if r.End() != api.OK || r.Left() != 0 {
			t.Fatal(seed, r.Left())
		}
	}
}

// P4.4: whatever is read of any bytes as numbers and strings, written again, has just the bytes that were read.
func TestReadIsWritten(t *testing.T) {
	for _, b := range lists(5, 0, 1, 2, 128, 200) {
		for pattern := range 4 {
			var w Writer
			r := New(b)
			for turn, e := pattern, api.OK; e == api.OK; turn /= 2 {
				if turn%2 == 0 {
					var n uint64
					if n, e = r.Num(top); e == api.OK {
						w.Num(n)
					}
				} else {
					var s string
					if s, e = r.String(math.MaxInt); e == api.OK {
						w.String(s)
					}
				}
				if x := w.Bytes(); !slices.Equal(x, b[:r.At()]) || r.At()+r.Left() != len(b) {
					t.Fatal(b, pattern, x, r.At(), r.Left())
				}
			}
		}
	}
}

// The rules: a writer retains no bytes that it was given, and gives out new ones.
func TestWriterSharesNothing(t *testing.T) {
	for _, first := range [][]byte{nil, {1, 2, 3}, of(100, 4)} {
		// With room behind the bytes, an append to them would write into the argument's memory.
		back := append(slices.Clone(first), 8, 9)
		var w Writer
		w.Put(back[:len(first)])
		w.Num(5)
		if !slices.Equal(back, append(slices.Clone(first), 8, 9)) {
			t.Error(first, back)
		}
		for i := range back {
			back[i] = 77
		}
		want := append(slices.Clone(first), 5)
		x := w.Bytes()
		y := w.Bytes()
		if !slices.Equal(x, want) {
			t.Error(first, x)
		}
		for i := range x {
			x[i] = 66
		}
		x = append(x, 66, 66)
		w.Put([]byte{6})
		if !slices.Equal(w.Bytes(), append(slices.Clone(want), 6)) || !slices.Equal(y, want) {
			t.Error(first, w.Bytes(), y)
		}
		y = append(y, 55)
		if !slices.Equal(w.Bytes(), append(slices.Clone(want), 6)) || y[len(want)] != 55 {
			t.Error(first, w.Bytes(), y)
		}
	}
}

// The rules: a reader retains no bytes that it was given, and gives out new ones.
func TestReaderSharesNothing(t *testing.T) {
	b := []byte{2, 97, 98, 7, 8, 9}
	given := slices.Clone(b)
	r := New(given)
	c := r.Copy()
	for i := range given {
		given[i] = 77
	}
	for _, r := range []*Reader{r, c} {
		again := r.Copy()
		s, e := r.String(2)
		x, f := r.Take(2)
		if s != "ab" || e != api.OK || !slices.Equal(x, []byte{7, 8}) || f != api.OK {
			t.Error(s, e, x, f)
		}
		x[0], x[1] = 66, 66
		x = append(x, 66, 66)
		if y, e := r.Take(1); !slices.Equal(y, []byte{9}) || e != api.OK {
			t.Error(x, y, e)
		}
		if y, e := again.Take(6); !slices.Equal(y, b) || e != api.OK {
			t.Error(y, e)
		}
	}
	given = slices.Clone(b)
	r = New(given)
	r.Num(9)
	r.String(9)
	r.Take(3)
	r.End()
	r.Copy()
	if !slices.Equal(given, b) {
		t.Error(given)
	}
}
