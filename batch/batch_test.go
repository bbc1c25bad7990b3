package batch

import (
	"encoding/binary"
	"hash/crc32"
	"maps"
	"math"
	"math/bits"
	"math/rand"
	"regexp"
	"runtime"
	"slices"
	"strconv"
	"strings"
	"testing"
	"unsafe"

	"pannier/api"
	"pannier/cart"
	"pannier/decode"
	"pannier/join"
)

// mark returns the mark of a dot with a quantity and a time, item an item, and on an entry.
func mark(replica, counter, q int, time uint64) api.Mark {
	return api.Mark{Dot: api.Dot{Replica: replica, Counter: counter}, Qty: q, Time: time}
}
func item(name string, marks ...api.Mark) api.Item { return api.Item{Name: name, Marks: marks} }
func on(key string, c api.Cart) api.Entry          { return api.Entry{Key: key, Cart: c} }

// con returns the context whose vector has the first n of the dots of pairs of a replica and a counter, and whose cloud the others, and with a cart.
func con(n int, l ...int) api.Context {
	var d []api.Dot
	for i := 0; i+1 < len(l); i += 2 {
		d = append(d, api.Dot{Replica: l[i], Counter: l[i+1]})
	}
	return api.Context{Vector: d[:n], Cloud: d[n:]}
}
func with(seen api.Context, l ...api.Item) api.Cart { return api.Cart{Context: seen, Items: l} }

// alike is whether two carts are equal in all parts, element by element, and same whether two lists of entries are.
func alike(a, b api.Cart) bool {
	return slices.Equal(a.Context.Vector, b.Context.Vector) && slices.Equal(a.Context.Cloud, b.Context.Cloud) &&
		slices.EqualFunc(a.Items, b.Items, func(x, y api.Item) bool { return x.Name == y.Name && slices.Equal(x.Marks, y.Marks) })
}
func same(a, b []api.Entry) bool {
	return slices.EqualFunc(a, b, func(x, y api.Entry) bool { return x.Key == y.Key && alike(x.Cart, y.Cart) })
}

// deep returns entries that share no memory with others, so that they stay what they were.
func deep(l []api.Entry) []api.Entry {
	var out []api.Entry
	for _, x := range l {
		c := with(api.Context{Vector: append(api.Vector{}, x.Cart.Context.Vector...), Cloud: append([]api.Dot{}, x.Cart.Context.Cloud...)})
		for _, y := range x.Cart.Items {
			c.Items = append(c.Items, item(strings.Clone(y.Name), append([]api.Mark{}, y.Marks...)...))
		}
		out = append(out, on(strings.Clone(x.Key), c))
	}
	return out
}

// num are the bytes of a number; the library writes them in the same way.
func num(n uint64) []byte { return binary.AppendUvarint(nil, n) }

// dotBytes and cartBytes are those of dots and of a cart, whether they are valid or not; what is below 0 becomes a great number.
func dotBytes(l []api.Dot) []byte {
	out := num(uint64(len(l)))
	for _, d := range l {
		out = binary.AppendUvarint(binary.AppendUvarint(out, uint64(d.Replica)), uint64(d.Counter))
	}
	return out
}
func cartBytes(c api.Cart) []byte {
	out := slices.Concat(dotBytes(c.Context.Vector), dotBytes(c.Context.Cloud), num(uint64(len(c.Items))))
	for _, x := range c.Items {
		out = append(binary.AppendUvarint(out, uint64(len(x.Name))), x.Name...)
		out = binary.AppendUvarint(out, uint64(len(x.Marks)))
		for _, m := range x.Marks {
			for _, n := range []uint64{uint64(m.Dot.Replica), uint64(m.Dot.Counter), uint64(m.Qty), m.Time} {
				out = binary.AppendUvarint(out, n)
			}
		}
	}
	return out
}

// inner are the bytes of entries, whatever they are, without the check sum; sealed are bytes with theirs, and whole the bytes of entries with it.
func inner(l []api.Entry) []byte {
	out := num(uint64(len(l)))
	for _, x := range l {
		out = append(binary.AppendUvarint(out, uint64(len(x.Key))), x.Key...)
		out = append(out, cartBytes(x.Cart)...)
	}
	return out
}
func sealed(b []byte) []byte {
	return binary.BigEndian.AppendUint32(slices.Clone(b), crc32.ChecksumIEEE(b))
}
func whole(l []api.Entry) []byte { return sealed(inner(l)) }

var keys = regexp.MustCompile(`^[a-z0-9\-_./]{1,64}$`)

// ordered is whether entries are in order, by the definition.
func ordered(l []api.Entry) bool {
	for i, x := range l {
		if !keys.MatchString(x.Key) || !cart.Valid(x.Cart) || i > 0 && strings.Compare(l[i-1].Key, x.Key) >= 0 {
			return false
		}
	}
	return true
}

// read are the entries whose batch some bytes are, by the definition: what they may say at best is a batch, and has just these bytes.
func read(b []byte) ([]api.Entry, bool) {
	if len(b) < 4 || len(b) > 1<<24 {
		return nil, false
	}
	rest := b[:len(b)-4]
	many, n := binary.Uvarint(rest)
	if n <= 0 {
		return nil, false
	}
	rest = rest[n:]
	var l []api.Entry
	for range many {
		size, n := binary.Uvarint(rest)
		if n <= 0 || size > uint64(len(rest)-n) {
			return nil, false
		}
		key := string(rest[n:][:size])
		rest = rest[n:][size:]
		c, n, err := decode.Prefix(rest)
		if err != api.OK {
			return nil, false
		}
		l, rest = append(l, on(key, c)), rest[n:]
	}
	if len(l) > 1024 || !ordered(l) || !slices.Equal(whole(l), b) {
		return nil, false
	}
	return l, true
}

// split are the batches into which entries in order are split, by the definition, and merged are the entries that two lists in order become.
func split(l []api.Entry) [][]api.Entry {
	var out [][]api.Entry
	for _, x := range l {
		last := len(out) - 1
		if last >= 0 && len(out[last]) < 1024 && len(whole(append(slices.Clone(out[last]), x))) <= 65536 {
			out[last] = append(out[last], x)
		} else {
			out = append(out, []api.Entry{x})
		}
	}
	return out
}
func merged(a, b []api.Entry) []api.Entry {
	carts := map[string]api.Cart{}
	for _, x := range slices.Concat(a, b) {
		carts[x.Key], _ = join.Join(carts[x.Key], x.Cart)
	}
	var out []api.Entry
	for _, key := range slices.Sorted(maps.Keys(carts)) {
		out = append(out, on(key, carts[key]))
	}
	return out
}

// wrong is the error of a call that returns something or not.
func wrong(ok bool, err api.Errno) api.Errno {
	if ok {
		return api.OK
	}
	return err
}

// hold looks at some entries, whose bytes are not too many, with all functions, which leave them as they are, and returns whether they are a batch.
func hold(t *testing.T, l []api.Entry) bool {
	t.Helper()
	kept, in, want := deep(l), ordered(l), whole(l)
	is := in && len(l) <= 1024
	if Valid(l) != is {
		t.Fatal("Valid", l, !is)
	}
	if b, err := Encode(l); is != (len(b) > 0) || is && !slices.Equal(b, want) || err != wrong(is, api.ErrArg) {
		t.Fatal("Encode", l, b, err)
	}
	if back, err := Decode(want); is && !same(back, l) || !is && len(back) > 0 || err != wrong(is, api.ErrMalformed) {
		t.Fatal("Decode", l, back, err)
	}
	var batches [][]api.Entry
	var all []api.Entry
	if in {
		batches, all = split(l), l
	}
	b, err := Split(l)
	if !slices.EqualFunc(b, batches, func(b []byte, l []api.Entry) bool { return slices.Equal(b, whole(l)) }) || err != wrong(in, api.ErrArg) {
		t.Fatal("Split", l, b, err)
	}
	for _, x := range [][2][]api.Entry{{l, nil}, {nil, l}, {l, {}}, {l, l}, {l, kept}} {
		if m, err := Merge(x[0], x[1]); !same(m, all) || err != wrong(in, api.ErrArg) {
			t.Fatal("Merge", x, m, err)
		}
	}
	if !same(l, kept) {
		t.Fatal("the entries were changed", kept, l)
	}
	return is
}

// look decodes some bytes, which stay as they are, and returns whether they are a batch.
func look(t *testing.T, b []byte) bool {
	t.Helper()
	kept := slices.Clone(b)
	want, is := read(b)
	l, err := Decode(b)
	if !same(l, want) || err != wrong(is, api.ErrMalformed) {
		t.Fatal("Decode", b, l, err)
	}
	if !slices.Equal(b, kept) {
		t.Fatal("the bytes were changed", kept, b)
	}
	if !is {
		return false
	}
	if again, err := Encode(l); !slices.Equal(again, b) || err != api.OK {
		t.Fatal("Encode", b, again, err)
	}
	return true
}

// refused is whether some bytes are no batch, and nothing is returned for them.
func refused(t *testing.T, why any, b []byte) {
	t.Helper()
	if l, err := Decode(b); len(l) > 0 || err != api.ErrMalformed {
		t.Error(why, len(b), b[:min(len(b), 100)], len(l), err)
	}
}

// meet merges two lists of entries, which stay as they are, in both orders.
func meet(t *testing.T, a, b []api.Entry) {
	t.Helper()
	before, after := deep(a), deep(b)
	in := ordered(a) && ordered(b)
	var want []api.Entry
	if in {
		want = merged(a, b)
	}
	for _, x := range [][2][]api.Entry{{a, b}, {b, a}} {
		if l, err := Merge(x[0], x[1]); !same(l, want) || err != wrong(in, api.ErrArg) {
			t.Fatal("Merge", x, l, err)
		}
	}
	if !same(a, before) || !same(b, after) {
		t.Fatal("the entries were changed", before, after, a, b)
	}
}

// Some carts: that of chapter 14's examples, those of chapter 11's, and one with several items, a cloud, a gap, and marks of several replicas.
func given() api.Cart { return with(con(1, 2, 3, 5, 9), item("tea", mark(2, 3, 200, 1))) }
func mine() api.Cart  { return with(con(1, 1, 1), item("Tea", mark(1, 1, 5, 3))) }
func yours() api.Cart { return with(con(1, 2, 1), item("Tea", mark(2, 1, 7, 4))) }
func newer() api.Cart { return with(con(1, 1, 1), item("Tea", mark(1, 1, 6, 3))) }
func gone() api.Cart  { return with(con(1, 1, 1)) }
func full() api.Cart {
	return with(con(2, 1, 2, 2, 4, 3, 5, 9, 9), item("Nut", mark(2, 1, 7, 4)), item("Oil", mark(3, 5, 1, 1)), item("Tea", mark(1, 1, 5, 3), mark(1, 2, 2, 9)))
}

// empties are entries with empty carts.
func empties(keys ...string) []api.Entry {
	var out []api.Entry
	for _, key := range keys {
		out = append(out, on(key, api.Cart{}))
	}
	return out
}

// numbered are so many entries with empty carts, in order.
func numbered(n int) []api.Entry {
	var out []api.Entry
	for i := range n {
		out = append(out, on(strconv.Itoa(100000+i), api.Cart{}))
	}
	return out
}

// badCarts are carts that are not valid, each of them for one reason alone.
func badCarts() []api.Cart {
	tea, nut := item("Tea", mark(1, 1, 5, 3)), item("Nut", mark(2, 1, 7, 4))
	seen := con(2, 1, 2, 2, 4)
	out := []api.Cart{
		// The context: dots that are not valid, another order, a dot twice, not compact.
		with(con(1, 0, 1)), with(con(1, 1, 0)), with(con(1, 65536, 1)), with(con(1, 1, 1<<32)), with(con(1, -1, 1)), with(con(0, 1, -1)), with(con(0, 0, 5)),
		with(con(2, 2, 1, 1, 1)), with(con(2, 1, 1, 1, 1)), with(con(0, 1, 5, 1, 3)), with(con(0, 1, 5, 1, 5)), with(con(0, 1, 1)), with(con(1, 1, 1, 1, 2)), with(con(1, 1, 2, 1, 2)),
		// A dot that was not seen.
		with(con(0), tea), with(con(1, 2, 4), nut, tea), with(con(1, 1, 4), nut, tea),
		// Items in another order, twice, with a dot of another one, without marks, or with a name that is none.
		with(seen, tea, nut), with(seen, tea, tea), with(seen, item("Ale", mark(1, 1, 1, 1)), tea), with(seen, item("Tea")), with(seen, nut, item("Tea")), with(seen, item("", tea.Marks...)), with(seen, item("Tea ", tea.Marks...)), with(seen, item("T\u00e9", tea.Marks...)), with(seen, item(strings.Repeat("t", 65), tea.Marks...)),
		// Marks in another order, twice, or with parts that are not valid.
		with(seen, item("Tea", mark(1, 2, 1, 1), mark(1, 1, 1, 1))), with(seen, item("Tea", mark(1, 1, 1, 1), mark(1, 1, 1, 1))), with(seen, item("Tea", mark(0, 1, 1, 1))), with(seen, item("Tea", mark(1, 0, 1, 1))), with(seen, item("Tea", mark(1, 1, 1, 0))),
	}
	for _, q := range []int{0, -1, 1 << 31, math.MaxInt, math.MinInt} {
		out = append(out, with(seen, item("Tea", mark(1, 1, q, 1))))
	}
	return out
}

// heavy returns a valid cart with just so many bytes, at least 16.
func heavy(n int) api.Cart {
	size := func(n int) int { return len(num(uint64(n))) }
	// What there is beside the marks, and what these have, if their quantities and times have one byte each; they may have 13 more.
	marks, fixed, least := 0, 11, 0
	for marks == 0 || fixed+size(marks)+least+13*marks < n {
		marks++
		least += 3 + size(marks)
	}
	more := n - fixed - size(marks) - least
	x := item("a")
	for i := range marks {
		time, q := min(more, 9), min(max(more-9, 0), 4)
		more -= time + q
		x.Marks = append(x.Marks, mark(1, 1+i, 1<<(7*q), 1<<(7*time)))
	}
	return with(con(1, 1, api.MaxCounter), x)
}

// entry returns an entry with just so many bytes.
func entry(key string, n int) api.Entry { return on(key, heavy(n-1-len(key))) }

// P16.1 to P16.4: the examples of the chapter, and the limits.
func TestExamples(t *testing.T) {
	if MaxBatch != 65536 || MaxBytes != 16777216 || MaxEntries != 1024 {
		t.Error(MaxBatch, MaxBytes, MaxEntries)
	}
	x := empties("k")
	if b, err := Encode(nil); len(b) != 5 || err != api.OK {
		t.Error(b, err)
	}
	b, err := Encode(x)
	if len(b) != 10 || !slices.Equal(b[:6], []byte{1, 1, 107, 0, 0, 0}) || err != api.OK {
		t.Fatal(b, err)
	}
	if l, err := Decode(b); !same(l, x) || err != api.OK {
		t.Error(l, err)
	}
	if b, err := Encode(empties("k", "k")); len(b) > 0 || err != api.ErrArg {
		t.Error(b, err)
	}
	refused(t, "none", nil)
	refused(t, "zeros", []byte{0, 0, 0, 0, 0})
	if b, err := Split(nil); len(b) > 0 || err != api.OK {
		t.Error(b, err)
	}
	if b, err := Split(x); len(b) != 1 || err != api.OK {
		t.Error(b, err)
	}
	if l, err := Merge(x, nil); !same(l, x) || err != api.OK {
		t.Error(l, err)
	}
	if l, err := Merge(x, x); !same(l, x) || err != api.OK {
		t.Error(l, err)
	}
	if l, err := Merge(empties("k", "k"), x); len(l) > 0 || err != api.ErrArg {
		t.Error(l, err)
	}
}

// P16.1 and P16.2: batches that are written down here, with their check sums.
func TestKnown(t *testing.T) {
	all, longest := "0123456789abcdefghijklmnopqrstuvwxyz", strings.Repeat("z", 64)
	for _, x := range []struct {
		b []byte
		l []api.Entry
	}{
		{[]byte{0, 210, 2, 239, 141}, nil},
		{[]byte{1, 1, 'k', 0, 0, 0, 171, 217, 43, 180}, empties("k")},
		{[]byte{1, 1, 'k', 1, 2, 3, 1, 5, 9, 1, 3, 't', 'e', 'a', 1, 2, 3, 200, 1, 1, 203, 11, 129, 144}, []api.Entry{on("k", given())}},
		{[]byte{2, 1, '-', 0, 0, 0, 6, 'c', 'a', 'r', 't', '/', '1', 1, 1, 1, 0, 1, 3, 'T', 'e', 'a', 1, 1, 1, 5, 3, 185, 66, 247, 191}, []api.Entry{on("-", api.Cart{}), on("cart/1", mine())}},
		{[]byte{3, 1, 'a', 1, 1, 1, 0, 0, 2, 'a', '/', 0, 1, 1, 2, 0, 1, 'b', 0, 0, 0, 3, 65, 119, 136}, []api.Entry{on("a", gone()), on("a/", with(con(0, 1, 2))), on("b", api.Cart{})}},
		{slices.Concat([]byte{1, 40}, []byte(all+"-_./"), []byte{0, 0, 0, 177, 15, 95, 174}), empties(all + "-_./")},
		{slices.Concat([]byte{1, 64}, []byte(longest), []byte{1, 255, 255, 3, 255, 255, 255, 255, 15, 0, 0, 205, 122, 9, 130}), []api.Entry{on(longest, with(con(1, 65535, api.MaxCounter)))}},
	} {
		if b, err := Encode(x.l); !slices.Equal(b, x.b) || err != api.OK {
			t.Error(x.l, b, err)
		}
		if l, err := Decode(x.b); !same(l, x.l) || err != api.OK {
			t.Error(x.b, l, err)
		}
		if !hold(t, x.l) || !look(t, x.b) {
			t.Error(x)
		}
	}
}

// P16.1 to P16.4: no entries at all, nil or not.
func TestNone(t *testing.T) {
	for _, l := range [][]api.Entry{nil, {}, make([]api.Entry, 0, 9)} {
		if !hold(t, l) {
			t.Error(l)
		}
		for _, m := range [][]api.Entry{nil, {}, empties("a", "b"), empties("b", "a")} {
			meet(t, l, m)
		}
	}
	for _, b := range [][]byte{nil, {}, make([]byte, 0, 9)} {
		refused(t, "no bytes", b)
	}
}

// P16.1 to P16.4: all short lists of some entries, with keys and carts that are valid and not, in all orders.
func TestShortLists(t *testing.T) {
	some := []api.Entry{on("a", given()), on("a", api.Cart{}), on("a/", mine()), on("b", full()), on("b", with(con(0, 1, 1))), on("B", mine()), on("", api.Cart{}), on("c", yours())}
	lists, good := [][]api.Entry{nil}, 0
	for i := 0; i < len(lists); i++ {
		if hold(t, lists[i]) {
			good++
		}
		if len(lists[i]) < 4 {
			for _, x := range some {
				lists = append(lists, append(slices.Clone(lists[i]), x))
			}
		}
	}
	// None, five alone, nine pairs, seven of three, and two of four.
	if good != 24 {
		t.Error(good)
	}
}

// P16.1: which bytes keys may have, and how many, at each place of a list.
func TestKeys(t *testing.T) {
	good := 0
	for c := range 256 {
		for _, key := range []string{string([]byte{byte(c)}), "a" + string([]byte{byte(c)}), string([]byte{byte(c), 'a'}), "a" + string([]byte{byte(c), 'a'}), strings.Repeat("a", 63) + string([]byte{byte(c)})} {
			if hold(t, empties(key)) {
				good++
			}
			hold(t, empties(key, "z"))
			hold(t, empties("", key))
			hold(t, empties("-", key))
			hold(t, empties("-", key, "z"))
		}
	}
	if good != 5*40 {
		t.Error(good)
	}
	for _, n := range []int{0, 1, 2, 63, 64, 65, 66, 127, 128, 129, 1000, 1 << 14} {
		if key := strings.Repeat("k", n); hold(t, empties(key)) != (0 < n && n < 65) || hold(t, empties("a", key, "l")) != (0 < n && n < 65) {
			t.Error(n)
		}
	}
	for _, key := range []string{"a b", "a\n", "\na", "\u00e9", "a\u0131", "\xff\xfe", "A/b", "a\x00", "a,b", "a:b", "a+b"} {
		if hold(t, empties(key)) {
			t.Error(key)
		}
	}
}

// P16.1 to P16.4: keys that strictly increase, byte by byte, and keys that differ in their last byte alone.
func TestOrder(t *testing.T) {
	inOrder := []string{"-", "--", "-z", ".", "/", "0", "00", "10", "9", "_", "a", "a-", "a.", "a/", "a/b", "a0", "a_", "aa", "ab", "az", "b", "z", "z-", "zz"}
	if !hold(t, empties(inOrder...)) {
		t.Error("not in order")
	}
	for i, x := range inOrder {
		for k, y := range inOrder {
			if hold(t, empties(x, y)) != (i < k) {
				t.Error(x, y)
			}
			meet(t, empties(x), empties(y))
		}
	}
	const last = "-./0123456789_abcdefghijklmnopqrstuvwxyz"
	for _, head := range []string{"", "k", "cart/", strings.Repeat("k", 63)} {
		for i, x := range last {
			for k, y := range last {
				if hold(t, empties(head+string(x), head+string(y))) != (i < k) {
					t.Error(head, x, y)
				}
			}
		}
	}
	// Two entries change places, or one is there twice, at each place of a longer list.
	for i := range 19 {
		l := numbered(20)
		l[i], l[i+1] = l[i+1], l[i]
		if hold(t, l) || hold(t, slices.Insert(numbered(20), i, numbered(20)[i])) {
			t.Error(i)
		}
	}
}

// P16.1 to P16.4: carts that are not valid, at each place of a list.
func TestBadCarts(t *testing.T) {
	for i, c := range badCarts() {
		for at := range 3 {
			l := []api.Entry{on("a", mine()), on("b", full()), on("c", given())}
			l[at].Cart = c
			if hold(t, l) || hold(t, l[at:at+1]) || hold(t, slices.Concat(numbered(1023), l[at:at+1])) {
				t.Error(i, at)
			}
			good := []api.Entry{on("a", yours()), on("b", yours()), on("d", yours())}
			meet(t, l, good)
			meet(t, l[at:at+1], good[2:])
			meet(t, l, l)
		}
	}
	// What is not valid stays so, even if what is there altogether would be valid.
	meet(t, []api.Entry{on("a", with(con(0), item("Tea", mark(1, 1, 5, 3))))}, []api.Entry{on("a", gone())})
	meet(t, []api.Entry{on("a", with(con(0, 1, 2)))}, []api.Entry{on("a", gone())})
}

// P16.1 to P16.4: so many entries that their number grows longer, that they are no batch any more, and that they are several.
func TestMany(t *testing.T) {
	t.Parallel()
	for _, n := range []int{1, 2, 127, 128, 129, 255, 256, 1023, 1024, 1025, 1026, 2047, 2048, 2049, 3000} {
		l := numbered(n)
		if hold(t, l) != (n <= 1024) {
			t.Error(n)
		}
		b, err := Split(l)
		if len(b) != (n+1023)/1024 || err != api.OK {
			t.Error(n, len(b), err)
		}
		for i, p := range b {
			if got, err := Decode(p); !same(got, l[1024*i:min(n, 1024*i+1024)]) || err != api.OK {
				t.Error(n, i, err)
			}
		}
		// The last one is wrong.
		for _, x := range []api.Entry{on("A", api.Cart{}), on("", api.Cart{}), l[0], l[n-1], on("z", badCarts()[0])} {
			if hold(t, append(slices.Clone(l), x)) {
				t.Error(n, x)
			}
		}
	}
}

// lengths splits entries and returns how many bytes each batch has.
func lengths(t *testing.T, l []api.Entry) []int {
	t.Helper()
	hold(t, l)
	b, err := Split(l)
	if err != api.OK {
		t.Fatal(err)
	}
	var out []int
	for _, p := range b {
		out = append(out, len(p))
	}
	return out
}

// P16.3: batches of just MaxBatch bytes, of one less and of one more, of one entry and of several, alone and behind others. Beside its entries a batch has 5 bytes, and 6 from 128 entries on.
func TestMaxBatch(t *testing.T) {
	t.Parallel()
	for by := -2; by <= 2; by++ {
		// One entry has as many bytes as it needs, and nothing comes into its batch if there is no room.
		size := MaxBatch + by
		check := func(l []api.Entry, want ...int) {
			t.Helper()
			if got := lengths(t, l); !slices.Equal(got, want) {
				t.Error(by, got, want)
			}
		}
		check([]api.Entry{entry("a", size-5)}, size)
		check([]api.Entry{entry("a", size-5), on("b", api.Cart{})}, size, 10)
		check([]api.Entry{on("a", api.Cart{}), entry("b", size-5)}, 10, size)
		check([]api.Entry{entry("a", size-5), entry("b", size-5), entry("c", size-5)}, size, size, size)
		two := []api.Entry{entry("c", 30000), entry("d", size-5-30000)}
		three := []api.Entry{entry("e", 40000), entry("f", 20000), entry("g", size-5-60000)}
		behind := []api.Entry{entry("a", 65000), entry("b", 70000)}
		after := []api.Entry{entry("h", 50000), on("i", api.Cart{})}
		if by <= 0 {
			check(two, size)
			check(three, size)
			check(slices.Concat(behind, two, three, after), 65005, 70005, size, size, 50010)
			check(slices.Concat(two, after), size, 50010)
		} else {
			check(two, 30005, size-30000)
			check(three, 60005, size-60000)
			check(slices.Concat(behind, two, three), 65005, 70005, 30005, size-30000, 60005, size-60000)
			check(slices.Concat(two, after), 30005, size-30000, 50010)
		}
	}
}

// sized are so many entries, in order, that have together just so many bytes.
func sized(many, bytes int) []api.Entry {
	var out []api.Entry
	for i := range many {
		n := bytes / (many - i)
		out = append(out, entry(strconv.Itoa(100000+i), n))
		bytes -= n
	}
	return out
}

// P16.3: the number of entries grows longer with the last one that would have room otherwise; and entries are too many before their bytes are.
func TestMaxBatchOfMany(t *testing.T) {
	t.Parallel()
	for _, x := range []struct{ entries, bytes, batches, first int }{
		{127, MaxBatch - 5, 1, 127}, {127, MaxBatch - 4, 2, 126}, {128, MaxBatch - 6, 1, 128}, {128, MaxBatch - 5, 2, 127}, {128, MaxBatch - 4, 2, 127}, {129, MaxBatch - 6, 1, 129}, {129, MaxBatch - 5, 2, 128},
		{1023, MaxBatch - 6, 1, 1023}, {1024, MaxBatch - 6, 1, 1024}, {1024, MaxBatch - 5, 2, 1023}, {1025, MaxBatch - 6, 2, 1024}, {1025, MaxBatch - 400, 2, 1024}, {1025, MaxBatch + 50, 2, 1024}, {1025, MaxBatch + 60, 2, 1023},
	} {
		l := sized(x.entries, x.bytes)
		hold(t, l)
		b, err := Split(l)
		if len(b) != x.batches || err != api.OK {
			t.Fatal(x, len(b), err)
		}
		if got, err := Decode(b[0]); !same(got, l[:x.first]) || err != api.OK {
			t.Error(x, len(got), err)
		}
	}
}

// crowd are 1024 entries, and alone is one, whose batch has just so many bytes.
func crowd(size int) []api.Entry { return sized(1024, size-6) }
func alone(size int) []api.Entry { return []api.Entry{entry("m", size-5)} }

// P16.1 to P16.3: batches of just MaxBytes, and of one less and one more, of one entry and of many.
func TestMaxBytes(t *testing.T) {
	for size := MaxBytes - 1; size <= MaxBytes+1; size++ {
		for _, of := range []func(int) []api.Entry{alone, crowd} {
			t.Run(strconv.Itoa(size), func(t *testing.T) {
				t.Parallel()
				atMost(t, of(size), size)
			})
		}
	}
}

// atMost looks at entries in order whose batch would have some bytes, about as many as there may be.
func atMost(t *testing.T, l []api.Entry, size int) {
	want, fits := whole(l), size <= MaxBytes
	if len(want) != size || !Valid(l) {
		t.Fatal(len(want), size)
	}
	if b, err := Encode(l); fits != slices.Equal(b, want) || !fits && len(b) > 0 || err != wrong(fits, api.ErrLong) {
		t.Error(len(l), len(b), err)
	}
	if back, err := Decode(want); fits != same(back, l) || !fits && len(back) > 0 || err != wrong(fits, api.ErrMalformed) {
		t.Error(len(l), len(back), err)
	}
	b, err := Split(l)
	if len(l) > 1 {
		// Each of them has about 16384 bytes, so there are three in a batch, whatever all have together.
		if len(b) != 342 || err != api.OK {
			t.Error(len(b), err)
		}
	} else if fits != (len(b) == 1 && slices.Equal(b[0], want)) || !fits && len(b) > 0 || err != wrong(fits, api.ErrLong) {
		t.Error(len(b), err)
	}
}

// P16.1 and P16.3: what is too long at each place, entries that are too long only together, and the order of the errors.
func TestLong(t *testing.T) {
	t.Parallel()
	long, half := heavy(MaxBytes), heavy(MaxBytes/2)
	for _, x := range []struct {
		l                    []api.Entry
		encode, split, merge api.Errno
	}{
		{[]api.Entry{on("a", long)}, api.ErrLong, api.ErrLong, api.OK},
		{[]api.Entry{on("a", long), on("b", api.Cart{})}, api.ErrLong, api.ErrLong, api.OK},
		{[]api.Entry{on("a", api.Cart{}), on("b", long)}, api.ErrLong, api.ErrLong, api.OK},
		{[]api.Entry{on("a", half), on("b", long), on("c", half)}, api.ErrLong, api.ErrLong, api.OK},
		{[]api.Entry{on("a", half), on("b", half)}, api.ErrLong, api.OK, api.OK},
		{[]api.Entry{on("a", api.Cart{}), on("b", half), on("c", half)}, api.ErrLong, api.OK, api.OK},
		// Entries that are in order, but too many, or not in order.
		{append(numbered(1024), on("a", long)), api.ErrArg, api.ErrLong, api.OK},
		{append([]api.Entry{on("-", long)}, numbered(1024)...), api.ErrArg, api.ErrLong, api.OK},
		{append([]api.Entry{on("-", long)}, numbered(1023)...), api.ErrLong, api.ErrLong, api.OK},
		{[]api.Entry{on("a", long), on("A", api.Cart{})}, api.ErrArg, api.ErrArg, api.ErrArg},
		{[]api.Entry{on("a", long), on("a", api.Cart{})}, api.ErrArg, api.ErrArg, api.ErrArg},
		{[]api.Entry{on("b", long), on("a", long)}, api.ErrArg, api.ErrArg, api.ErrArg},
		{[]api.Entry{on("", api.Cart{}), on("a", long)}, api.ErrArg, api.ErrArg, api.ErrArg},
		{[]api.Entry{on("a", long), on("b", with(con(0, 1, 1)))}, api.ErrArg, api.ErrArg, api.ErrArg},
		{[]api.Entry{on("a", half), on("b", half), on("c", with(con(0, 1, 1)))}, api.ErrArg, api.ErrArg, api.ErrArg},
	} {
		var called []string
		for _, e := range x.l {
			called = append(called, e.Key)
		}
		if b, err := Encode(x.l); err != x.encode || len(b) > 0 {
			t.Error(called, len(b), err)
		}
		if b, err := Split(x.l); err != x.split || err != api.OK && len(b) > 0 {
			t.Error(called, len(b), err)
		}
		l, err := Merge(x.l, nil)
		if err != x.merge || err == api.OK && !same(l, x.l) || err != api.OK && len(l) > 0 {
			t.Error(called, len(l), err)
		}
		if Valid(x.l) != (x.encode == api.ErrLong) {
			t.Error(called)
		}
	}
}

// P16.2: bytes with the right check sum that are no batch, each for a reason that is written down here.
func TestRefused(t *testing.T) {
	for why, b := range map[string][]byte{
		"no number":                            {},
		"no end of the number":                 {128},
		"a number of two bytes for 0":          {128, 0},
		"a number of two bytes for 1":          {129, 0, 1, 'a', 0, 0, 0},
		"no entry":                             {1},
		"one entry of two":                     {2, 1, 'a', 0, 0, 0},
		"two entries of one":                   {1, 1, 'a', 0, 0, 0, 1, 'b', 0, 0, 0},
		"one entry of none":                    {0, 1, 'a', 0, 0, 0},
		"something behind none":                {0, 0},
		"something behind one":                 {1, 1, 'a', 0, 0, 0, 0},
		"a check sum too many":                 whole(empties("a")),
		"a batch behind another one":           append(whole(empties("a")), inner(empties("b"))...),
		"no key":                               {1, 0, 0, 0, 0},
		"no bytes of a key":                    {1, 1},
		"a part of a key":                      {1, 3, 'a', 'b'},
		"a key with a length of two bytes":     {1, 129, 0, 'a', 0, 0, 0},
		"a key longer than what follows":       {1, 64, 'a', 0, 0, 0},
		"a key of 65 bytes":                    slices.Concat([]byte{1, 65}, slices.Repeat([]byte{'a'}, 65), []byte{0, 0, 0}),
		"a key with a capital letter":          {1, 1, 'A', 0, 0, 0},
		"a key with a space":                   {1, 1, ' ', 0, 0, 0},
		"a key with 0":                         {1, 1, 0, 0, 0, 0},
		"a key with 255":                       {1, 1, 255, 0, 0, 0},
		"a key that is no key behind one":      {2, 1, 'a', 0, 0, 0, 2, 'a', '!', 0, 0, 0},
		"keys that are equal":                  {2, 1, 'a', 0, 0, 0, 1, 'a', 0, 0, 0},
		"keys in another order":                {2, 1, 'b', 0, 0, 0, 1, 'a', 0, 0, 0},
		"a beginning of a key behind it":       {2, 2, 'a', 'b', 0, 0, 0, 1, 'a', 0, 0, 0},
		"keys in the order of their lengths":   {2, 1, 'b', 0, 0, 0, 2, 'a', 'a', 0, 0, 0},
		"no cart":                              {1, 1, 'a'},
		"a part of a cart":                     {1, 1, 'a', 0, 0},
		"a part of a second cart":              {2, 1, 'a', 0, 0, 0, 1, 'b', 0, 0},
		"a cart that is not compact":           {1, 1, 'a', 0, 1, 2, 1, 0},
		"a cart with a number of two bytes":    {1, 1, 'a', 0, 0, 128, 0},
		"a cart with a dot that was not seen":  {1, 1, 'a', 0, 0, 1, 1, 'T', 1, 1, 1, 1, 1},
		"a cart with quantity 0":               {1, 1, 'a', 1, 1, 1, 0, 1, 1, 'T', 1, 1, 1, 0, 1},
		"2^64 - 1 entries":                     {255, 255, 255, 255, 255, 255, 255, 255, 255, 1, 1, 'a', 0, 0, 0},
		"2^64 entries":                         {128, 128, 128, 128, 128, 128, 128, 128, 128, 2, 1, 'a', 0, 0, 0},
		"2^64 + 1 entries":                     {129, 128, 128, 128, 128, 128, 128, 128, 128, 2, 1, 'a', 0, 0, 0},
		"2^63 + 1 entries":                     {129, 128, 128, 128, 128, 128, 128, 128, 128, 1, 1, 'a', 0, 0, 0},
		"2^32 + 1 entries":                     {129, 128, 128, 128, 16, 1, 'a', 0, 0, 0},
		"a key of 2^64 - 1 bytes":              {1, 255, 255, 255, 255, 255, 255, 255, 255, 255, 1, 'a', 0, 0, 0},
		"a key of 2^63 bytes":                  {1, 128, 128, 128, 128, 128, 128, 128, 128, 128, 1, 'a', 0, 0, 0},
		"a key of 2^32 + 1 bytes":              {1, 129, 128, 128, 128, 16, 'a', 0, 0, 0},
		"2^64 - 1 dots":                        {1, 1, 'a', 255, 255, 255, 255, 255, 255, 255, 255, 255, 1, 0, 0},
		"2^64 - 1 items":                       {1, 1, 'a', 0, 0, 255, 255, 255, 255, 255, 255, 255, 255, 255, 1},
		"1025 entries":                         inner(numbered(1025)),
		"1024 entries of 1025":                 append([]byte{129, 8}, inner(numbered(1024))[2:]...),
		"1025 entries of 1024":                 append([]byte{128, 8}, inner(numbered(1025))[2:]...),
		"1023 entries of 1024":                 append([]byte{128, 8}, inner(numbered(1023))[2:]...),
		"1024 entries, the last one of before": inner(append(numbered(1023), on("100000", api.Cart{}))),
	} {
		refused(t, why, sealed(b))
		if look(t, sealed(b)) {
			t.Error(why)
		}
	}
}

// batches are the bytes of some batches of different kinds.
func batches() [][]byte {
	var out [][]byte
	for _, l := range [][]api.Entry{nil, empties("k"), {on("cart/1", full())}, {on("a", given()), on("a/b", api.Cart{}), on("b", full())}, numbered(130), {on("k", heavy(400)), on("l", heavy(17))}} {
		out = append(out, whole(l))
	}
	return out
}

// P16.2 and P16.5: just one byte of a batch is changed, whatever it becomes (of long batches, only to some others).
func TestOneByte(t *testing.T) {
	t.Parallel()
	for _, b := range batches() {
		for i := range b {
			for by := 1; by < 256; by += 1 + len(b)/300 {
				p := slices.Clone(b)
				p[i] += byte(by)
				refused(t, i, p)
			}
		}
	}
}

// P16.2 and P16.5: the last bytes of a batch are cut off, the first ones too, or others are behind them, in front or between.
func TestCutOff(t *testing.T) {
	tails := [][]byte{{0}, {1}, {128}, {255}, {0, 0, 0}, {0, 0, 0, 0}, {0, 210, 2, 239, 141}, {1, 1, 'z', 0, 0, 0}, slices.Repeat([]byte{0}, 100)}
	for _, b := range batches() {
		for i := range b {
			refused(t, i, b[:i])
			if i > 0 {
				look(t, b[i:])
			}
			look(t, sealed(b[:i]))
			look(t, sealed(b[i:]))
			look(t, slices.Delete(slices.Clone(b), i, i+1))
			look(t, slices.Insert(slices.Clone(b), i, 0))
		}
		for _, tail := range append(tails, batches()...) {
			refused(t, tail, append(slices.Clone(b), tail...))
			look(t, append(slices.Clone(tail), b...))
			look(t, sealed(append(slices.Clone(b), tail...)))
			look(t, sealed(append(slices.Clone(b[:len(b)-4]), tail...)))
			look(t, sealed(append(slices.Clone(tail), b[:len(b)-4]...)))
		}
	}
}

// P16.2: the check sum has four bytes, the highest one first, and is that of all bytes before.
func TestCheckSum(t *testing.T) {
	for _, b := range batches() {
		body, sum := b[:len(b)-4], binary.BigEndian.Uint32(b[len(b)-4:])
		put := func(n uint32) []byte { return binary.BigEndian.AppendUint32(slices.Clone(body), n) }
		if l, err := Decode(put(sum)); err != api.OK {
			t.Error(b, l, err)
		}
		for _, n := range []uint32{0, ^sum, sum + 1, sum - 1, sum ^ 1<<31, math.MaxUint32, bits.ReverseBytes32(sum), bits.Reverse32(sum), bits.RotateLeft32(sum, 8), bits.RotateLeft32(sum, 16), crc32.ChecksumIEEE(body[1:]), crc32.ChecksumIEEE(body[:len(body)-1]), crc32.ChecksumIEEE(b), crc32.ChecksumIEEE(append(slices.Clone(body), 0, 0, 0, 0)), crc32.Checksum(body, crc32.MakeTable(crc32.Castagnoli)), adler(body)} {
			refused(t, n, put(n))
		}
		refused(t, "no check sum", body)
		refused(t, "three bytes of it", b[:len(b)-1])
		refused(t, "twice", sealed(b))
		refused(t, "in front", append(slices.Clone(b[len(b)-4:]), body...))
	}
}

// adler is another check sum.
func adler(b []byte) uint32 {
	low, high := uint32(1), uint32(0)
	for _, x := range b {
		low = (low + uint32(x)) % 65521
		high = (high + low) % 65521
	}
	return high<<16 | low
}

// P16.2 and P16.5: each byte of a batch is changed to all others, and the check sum with it: what is a batch then is another one.
func TestChangedAndSealed(t *testing.T) {
	read := 0
	for _, l := range [][]api.Entry{nil, empties("k"), empties("a", "b"), {on("a", mine()), on("a/b", api.Cart{}), on("b", full())}} {
		b := inner(l)
		for i := range b {
			for c := range 256 {
				p := slices.Clone(b)
				p[i] = byte(c)
				if look(t, sealed(p)) {
					read++
				}
				look(t, sealed(slices.Insert(slices.Clone(b), i, byte(c))))
			}
			look(t, sealed(slices.Delete(slices.Clone(b), i, i+1)))
		}
	}
	if read < 200 {
		t.Error(read)
	}
}

// P16.2: all short lists of some bytes, with their check sum and without one.
func TestShortBytes(t *testing.T) {
	lists, read := [][]byte{nil}, 0
	for i := 0; i < len(lists); i++ {
		p := lists[i]
		for _, head := range [][]byte{nil, {1, 1, 'a'}, {2, 1, 'a', 0, 0, 0}} {
			if look(t, sealed(append(slices.Clone(head), p...))) {
				read++
			}
		}
		look(t, p)
		if len(p) < 6 {
			for _, c := range []byte{0, 1, 2, 'a', 'b', 128, 255} {
				lists = append(lists, append(slices.Clone(p), c))
			}
		}
	}
	if read < 20 {
		t.Error(read)
	}
}

// numbers are those at which a number's bytes grow longer, those next to them, and the limits of the layer.
func numbers() []uint64 {
	out := []uint64{0, 3, 64, 65, 1023, 1024, 1025, math.MaxUint64, math.MaxUint64 - 1}
	for bit := range 64 {
		out = append(out, 1<<bit-1, 1<<bit, 1<<bit+1)
	}
	return out
}

// P16.2: numbers of entries, and lengths of keys, that are others than those of what follows, up to the greatest one.
func TestGreatNumbers(t *testing.T) {
	for _, n := range numbers() {
		for _, many := range []int{0, 1, 2, 3, 64, 127, 128, 1024} {
			rest := inner(numbered(many))[len(num(uint64(many))):]
			if look(t, sealed(append(num(n), rest...))) != (n == uint64(many)) {
				t.Error(n, many)
			}
		}
		for _, size := range []int{0, 1, 2, 63, 64, 65, 127, 128, 1024} {
			rest := append([]byte(strings.Repeat("a", size)), 0, 0, 0)
			if look(t, sealed(slices.Concat([]byte{1}, num(n), rest))) != (n == uint64(size) && 0 < n && n <= 64) {
				t.Error(n, size)
			}
			look(t, sealed(slices.Concat([]byte{2, 1, '-', 0, 0, 0}, num(n), rest)))
		}
		// The same numbers in more bytes than they need.
		loose := num(n)
		loose[len(loose)-1] |= 128
		for _, more := range [][]byte{{0}, {128, 0}, {128, 128, 128, 128, 128, 128, 128, 128, 0}} {
			refused(t, n, sealed(slices.Concat(loose, more, inner(empties("a"))[1:])))
			refused(t, n, sealed(slices.Concat([]byte{1}, loose, more, []byte{'a', 0, 0, 0})))
		}
	}
}

// random returns entries in order, some of which have large carts.
func random(r *rand.Rand, many, size int) []api.Entry {
	var out []api.Entry
	for i := range many {
		key := strconv.Itoa(1000+i) + strings.Repeat("x", r.Intn(60))
		switch r.Intn(4) {
		case 0:
			out = append(out, on(key, []api.Cart{{}, mine(), yours(), newer(), gone(), full(), given()}[r.Intn(7)]))
		default:
			out = append(out, on(key, heavy(16+r.Intn(1+r.Intn(size)))))
		}
	}
	return out
}

// P16.3 and P16.5: what Split returns, decoded one after the other, is just the entries, and no two neighbours could be one.
func TestSplit(t *testing.T) {
	t.Parallel()
	r := rand.New(rand.NewSource(16))
	several := 0
	for range 60 {
		l := random(r, 1+r.Intn(60), []int{10, 1000, 20000, 100000}[r.Intn(4)])
		hold(t, l)
		b, err := Split(l)
		if err != api.OK {
			t.Fatal(err)
		}
		var all, last []api.Entry
		for i, p := range b {
			part, err := Decode(p)
			if err != api.OK || len(part) == 0 || len(p) > 65536 && len(part) > 1 {
				t.Fatal(i, len(p), err)
			}
			if i > 0 {
				both, err := Encode(append(last, part...))
				if err == api.OK && len(both) <= 65536 {
					t.Error(i, len(both))
				}
				several++
			}
			all, last = append(all, part...), part
		}
		if !same(all, l) {
			t.Error(len(all), len(l))
		}
	}
	if several < 100 {
		t.Error(several)
	}
}

// picks are all lists of entries with some of three keys, each with one of some carts.
func picks() [][]api.Entry {
	out := [][]api.Entry{nil}
	for _, key := range []string{"a", "a-", "b"} {
		for _, l := range out[:len(out):len(out)] {
			for _, c := range []api.Cart{{}, mine(), yours(), newer(), gone()} {
				out = append(out, append(slices.Clone(l), on(key, c)))
			}
		}
	}
	return out
}

// P16.4 and P16.5: all pairs of short lists, with no key, some keys and all keys in common.
func TestMerge(t *testing.T) {
	l := picks()
	for i, a := range l {
		for _, b := range l[:i+1] {
			meet(t, a, b)
		}
	}
	both := with(con(2, 1, 1, 2, 1), item("Tea", mark(1, 1, 5, 3), mark(2, 1, 7, 4)))
	for _, x := range []struct{ a, b, want []api.Entry }{
		{[]api.Entry{on("k", mine())}, []api.Entry{on("k", yours())}, []api.Entry{on("k", both)}},
		{[]api.Entry{on("k", mine())}, []api.Entry{on("k", newer())}, []api.Entry{on("k", newer())}},
		{[]api.Entry{on("k", mine())}, []api.Entry{on("l", mine())}, []api.Entry{on("k", mine()), on("l", mine())}},
		{[]api.Entry{on("k", both)}, []api.Entry{on("k", gone())}, []api.Entry{on("k", with(con(2, 1, 1, 2, 1), yours().Items...))}},
		// An entry stays, even if its cart has nothing more.
		{[]api.Entry{on("k", mine())}, []api.Entry{on("k", gone())}, []api.Entry{on("k", gone())}},
		{empties("k"), empties("k"), empties("k")},
		{empties("a", "c", "e"), empties("b", "c", "d", "f"), empties("a", "b", "c", "d", "e", "f")},
		{empties("a", "b"), empties("c", "d"), empties("a", "b", "c", "d")},
		{empties("a", "b", "c", "d"), empties("b"), empties("a", "b", "c", "d")},
	} {
		for _, y := range [][2][]api.Entry{{x.a, x.b}, {x.b, x.a}} {
			if l, err := Merge(y[0], y[1]); !same(l, x.want) || err != api.OK {
				t.Error(y, l, err)
			}
		}
	}
}

// P16.4: lists that are not in order, on either side, beside all kinds of others.
func TestMergeErrors(t *testing.T) {
	bad := [][]api.Entry{empties("b", "a"), empties("a", "a"), empties(""), empties("A"), empties("a", "b", "B"), {on("a", with(con(0, 1, 1)))}, {on("a", mine()), on("b", badCarts()[1])}, append(numbered(2000), on("0", api.Cart{}))}
	others := append(picks()[:50], numbered(3), empties("z"), numbered(1025))
	for _, a := range bad {
		for _, b := range append(others, bad...) {
			for _, x := range [][2][]api.Entry{{a, b}, {b, a}} {
				if l, err := Merge(x[0], x[1]); len(l) > 0 || err != api.ErrArg {
					t.Error(x, l, err)
				}
			}
		}
	}
}

// P16.4 and P1: long lists, of more entries than a batch may have, by turns, one behind the other, and with some keys in common.
func TestMergeLong(t *testing.T) {
	all := numbered(20000)
	for i := range all {
		all[i].Cart = []api.Cart{{}, mine(), yours(), gone()}[i%4]
	}
	parts := func(of func(i int) bool) []api.Entry {
		var out []api.Entry
		for i, x := range all {
			if of(i) {
				out = append(out, x)
			}
		}
		return out
	}
	for _, of := range []func(i int) bool{
		func(i int) bool { return i%2 == 0 }, func(i int) bool { return i < 7000 }, func(i int) bool { return i%3 > 0 }, func(i int) bool { return i == 19999 }, func(i int) bool { return true }, func(i int) bool { return false },
	} {
		a, b := parts(of), parts(func(i int) bool { return !of(i) || i%5 == 0 })
		for _, x := range [][2][]api.Entry{{a, b}, {b, a}, {all, a}, {b, all}} {
			if l, err := Merge(x[0], x[1]); !same(l, all) || err != api.OK {
				t.Error(len(x[0]), len(x[1]), len(l), err)
			}
		}
	}
	b, err := Split(all)
	if len(b) != 20 || err != api.OK {
		t.Error(len(b), err)
	}
}

// P16.5: Decode inverts Encode, and the other way round, for random entries; merging does not depend on the order, nor does repeating change anything.
func TestConsequences(t *testing.T) {
	r := rand.New(rand.NewSource(61))
	for range 300 {
		l, m := random(r, r.Intn(20), 300), random(r, r.Intn(20), 300)
		for i := range m {
			if i < len(l) && r.Intn(2) == 0 {
				m[i].Key = l[i].Key
			}
		}
		hold(t, l)
		meet(t, l, m)
		both, err := Merge(l, m)
		if err != api.OK {
			t.Fatal(err)
		}
		b, err := Encode(both)
		if err != api.OK || !look(t, b) {
			t.Fatal(err)
		}
		meet(t, both, l)
		meet(t, both, both)
		if again, err := Merge(both, l); !same(again, both) || err != api.OK {
			t.Error(l, m, again, err)
		}
	}
}

// taken is how much memory is taken in all by a call, also what is given back at once.
func taken(call func()) uint64 {
	var before, after runtime.MemStats
	runtime.ReadMemStats(&before)
	call()
	runtime.ReadMemStats(&after)
	return after.TotalAlloc - before.TotalAlloc
}

// P1 and P16.2: however great the numbers are that bytes begin with, and however many carts they have, no more memory is taken than a multiple of their length.
func TestMemory(t *testing.T) {
	bounded := func(what string, b []byte) {
		t.Helper()
		if n := taken(func() { Decode(b) }); n > uint64(200*len(b)+5000) {
			t.Error(what, len(b), n)
		}
	}
	for _, size := range []int{0, 20, 1000, 100000} {
		for _, n := range []uint64{1, 1024, 1025, 1 << 20, 1 << 40, math.MaxUint64} {
			why := strconv.FormatUint(n, 10)
			for _, c := range []byte{0, 1, 'a', 255} {
				fill := slices.Repeat([]byte{c}, size)
				bounded(why+" entries", sealed(append(num(n), fill...)))
				bounded(why+" bytes of a key", sealed(slices.Concat([]byte{1}, num(n), fill)))
				bounded(why+" dots", sealed(slices.Concat([]byte{1, 1, 'a'}, num(n), fill)))
				bounded(why+" items", sealed(slices.Concat([]byte{1, 1, 'a', 0, 0}, num(n), fill)))
				bounded("no check sum", append(num(n), fill...))
			}
		}
	}
	// What stands behind a cart is not looked at once more for each cart in front of it.
	for _, l := range [][]api.Entry{numbered(1024), sized(1024, 1024*300), append(numbered(1023), entry("a", 1<<20)), append([]api.Entry{entry("-", 1<<20)}, numbered(1023)...)} {
		bounded(strconv.Itoa(len(l))+" carts", whole(l))
	}
}

// P1: bytes and entries that are far too many.
func TestTooMany(t *testing.T) {
	t.Parallel()
	for _, c := range []byte{0, 1, 127, 128, 255} {
		for _, size := range []int{1 << 16, MaxBytes, MaxBytes + 1, MaxBytes + 4, 2 * MaxBytes} {
			b := slices.Repeat([]byte{c}, size)
			refused(t, size, b)
		}
	}
	// More than there may be, with the right check sum, also of the first bytes alone.
	refused(t, "behind a batch", append(whole(empties("a")), make([]byte, MaxBytes)...))
	refused(t, "an entry too many", whole(append(crowd(MaxBytes), on("z", api.Cart{}))))
	refused(t, "a cart in front", whole(append(empties("-"), alone(MaxBytes)...)))
	l := numbered(100000)
	if b, err := Encode(l); len(b) > 0 || err != api.ErrArg || Valid(l) {
		t.Error(len(b), err)
	}
	if b, err := Split(l); len(b) != 98 || err != api.OK {
		t.Error(len(b), err)
	}
	for _, l := range [][]api.Entry{make([]api.Entry, 100000), append(l, l[0])} {
		b, err := Split(l)
		m, wrong := Merge(l, l)
		if len(b) > 0 || err != api.ErrArg || len(m) > 0 || wrong != api.ErrArg || Valid(l) {
			t.Error(len(b), err, len(m), wrong)
		}
	}
}

// span is the memory of a slice, up to its capacity, or of a string.
type span struct{ from, to uintptr }

func sliceSpan[T any](l []T) span {
	var one T
	from := uintptr(unsafe.Pointer(unsafe.SliceData(l)))
	return span{from, from + uintptr(cap(l))*unsafe.Sizeof(one)}
}
func stringSpan(s string) span {
	from := uintptr(unsafe.Pointer(unsafe.StringData(s)))
	return span{from, from + uintptr(len(s))}
}

// overlap is whether two spans share memory, spans are those of entries.
func overlap(a, b span) bool { return max(a.from, b.from) < min(a.to, b.to) }
func spans(l []api.Entry) []span {
	out := []span{sliceSpan(l)}
	for _, x := range l {
		out = append(out, stringSpan(x.Key), sliceSpan(x.Cart.Context.Vector), sliceSpan(x.Cart.Context.Cloud), sliceSpan(x.Cart.Items))
		for _, y := range x.Cart.Items {
			out = append(out, stringSpan(y.Name), sliceSpan(y.Marks))
		}
	}
	return out
}

// roomy returns a slice with others behind its end.
func roomy[T any](l []T, others ...T) []T {
	return append(append(make([]T, 0, 2*len(l)+8), l...), others...)[:len(l)]
}

// inputs are lists for the tests of memory, in order and not, with keys in common and not; all of their lists have others behind their end.
func inputs() [][]api.Entry {
	var out [][]api.Entry
	for _, l := range [][]api.Entry{nil, {on("cart/1", full())}, {on("cart/1", mine()), on("cart/2", given()), on("cart/4", api.Cart{})}, {on("cart/1", yours()), on("cart/3", full())}, {on("cart/2", full()), on("cart/1", mine())}} {
		l = deep(l)
		for i, x := range l {
			l[i].Cart.Context.Vector = roomy(x.Cart.Context.Vector, api.Dot{Replica: 8, Counter: 8})
			l[i].Cart.Context.Cloud = roomy(x.Cart.Context.Cloud, api.Dot{Replica: 8, Counter: 8})
			for k, y := range x.Cart.Items {
				x.Cart.Items[k].Marks = roomy(y.Marks, mark(8, 8, 8, 8))
			}
			l[i].Cart.Items = roomy(x.Cart.Items, item("behind", mark(8, 8, 8, 8)))
		}
		out = append(out, roomy(l, on("cart/8", mine()), on("cart/9", full())))
	}
	return out
}

// results are the entries and the bytes that calls with some lists and bytes return, each call made twice.
func results(l [][]api.Entry, b [][]byte) (entries [][]api.Entry, bytes [][]byte) {
	for range 2 {
		for _, x := range l {
			Valid(x)
			first, _ := Encode(x)
			more, _ := Split(x)
			bytes = append(append(bytes, first), more...)
			for _, y := range l {
				both, _ := Merge(x, y)
				entries = append(entries, both)
			}
		}
		for _, p := range b {
			back, _ := Decode(p)
			entries = append(entries, back)
		}
	}
	return entries, bytes
}

// encoded are bytes for the tests of memory, with others behind their end: batches, and something else.
func encoded() [][]byte {
	var out [][]byte
	for _, l := range inputs() {
		out = append(out, roomy(whole(l), 1, 2, 3))
	}
	return append(out, roomy([]byte{1, 2, 3, 4, 5, 6}, 7, 8))
}

// spoil changes all that entries have, also behind the ends of their lists.
func spoil(l []api.Entry) {
	bad := mark(-9, -9, -9, 9)
	for i, x := range l[:cap(l)] {
		for _, d := range [][]api.Dot{x.Cart.Context.Vector, x.Cart.Context.Cloud} {
			for k := range d[:cap(d)] {
				d[:cap(d)][k] = bad.Dot
			}
		}
		for k, y := range x.Cart.Items[:cap(x.Cart.Items)] {
			for n := range y.Marks[:cap(y.Marks)] {
				y.Marks[:cap(y.Marks)][n] = bad
			}
			x.Cart.Items[:cap(x.Cart.Items)][k] = item("spoilt", bad)
		}
		l[:cap(l)][i] = on("spoilt", with(con(0)))
	}
}

// spoilBytes changes all bytes, also behind the end.
func spoilBytes(b []byte) {
	for i := range b[:cap(b)] {
		b[:cap(b)][i] = 77
	}
}

// sameLists and sameBytes are whether all lists, and all bytes, are equal, also behind their ends, if these were kept.
func sameLists(a, b [][]api.Entry) bool { return slices.EqualFunc(a, b, same) }
func sameBytes(a, b [][]byte) bool      { return slices.EqualFunc(a, b, slices.Equal[[]byte]) }

// kept returns lists that share no memory with others, with what is behind their ends.
func kept(l [][]api.Entry, whole bool) [][]api.Entry {
	var out [][]api.Entry
	for _, x := range l {
		if whole {
			x = x[:cap(x)]
		}
		out = append(out, deep(x))
	}
	return out
}

// keptBytes returns bytes that share no memory with others.
func keptBytes(l [][]byte) [][]byte {
	var out [][]byte
	for _, b := range l {
		out = append(out, slices.Clone(b))
	}
	return out
}

// ends are lists up to their capacities.
func ends[T any](l [][]T) [][]T {
	var out [][]T
	for _, x := range l {
		out = append(out, x[:cap(x)])
	}
	return out
}

// The rules: no call changes its arguments, not even behind their ends, and equal calls have equal results.
func TestArgumentsStay(t *testing.T) {
	l, b := inputs(), encoded()
	before, bytes := kept(l, true), keptBytes(ends(b))
	entries, out := results(l, b)
	if !sameLists(ends(l), before) || !sameBytes(ends(b), bytes) {
		t.Error("the arguments were changed")
	}
	for i, x := range l {
		for k, e := range x {
			want := inputs()[i][k].Cart
			if v, c, y := e.Cart.Context.Vector, e.Cart.Context.Cloud, e.Cart.Items; !slices.Equal(v[:cap(v)], want.Context.Vector[:cap(v)]) || !slices.Equal(c[:cap(c)], want.Context.Cloud[:cap(c)]) || !alike(with(con(0), y[:cap(y)]...), with(con(0), want.Items[:cap(y)]...)) {
				t.Error(i, k, "something behind an end was changed")
			}
		}
	}
	if half := len(entries) / 2; !sameLists(entries[:half], entries[half:]) {
		t.Error("entries differ")
	}
	if half := len(out) / 2; !sameBytes(out[:half], out[half:]) {
		t.Error("bytes differ")
	}
}

// The rules: whatever is changed in a result, the arguments and the other results stay what they were; whatever is changed in the arguments, the results do.
func TestNewMemory(t *testing.T) {
	l, b := inputs(), encoded()
	before, bytes := kept(l, true), keptBytes(ends(b))
	entries, out := results(l, b)
	wantEntries, wantBytes := kept(entries, false), keptBytes(out)
	for i, x := range entries {
		spoil(x)
		if !sameLists(entries[i+1:], wantEntries[i+1:]) || !sameBytes(out, wantBytes) || !sameLists(ends(l), before) || !sameBytes(ends(b), bytes) {
			t.Fatal("entries", i)
		}
	}
	for i, p := range out {
		spoilBytes(p)
		if !sameBytes(out[i+1:], wantBytes[i+1:]) || !sameLists(ends(l), before) || !sameBytes(ends(b), bytes) {
			t.Fatal("bytes", i)
		}
	}
	entries, out = results(l, b)
	for i := range l {
		spoil(l[i])
	}
	for i := range b {
		spoilBytes(b[i])
	}
	if !sameLists(entries, wantEntries) || !sameBytes(out, wantBytes) {
		t.Error("the results were changed")
	}
}

// The rules: neither arguments, nor two results, nor two parts of one result share memory, not even behind their ends.
func TestNothingShared(t *testing.T) {
	l, b := inputs(), encoded()
	var given, made []span
	for _, x := range l {
		given = append(given, spans(x)...)
	}
	for _, p := range b {
		given = append(given, sliceSpan(p))
	}
	entries, out := results(l, b)
	for _, x := range entries {
		made = append(made, spans(x)...)
	}
	for _, p := range out {
		made = append(made, sliceSpan(p))
	}
	for i, x := range made {
		if slices.ContainsFunc(append(given, made[i+1:]...), func(y span) bool { return overlap(x, y) }) {
			t.Fatal(i)
		}
	}
}
