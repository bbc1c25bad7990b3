package canon

import (
	"math"
	"math/rand"
	"regexp"
	"slices"
	"strconv"
	"strings"
	"testing"
	"unsafe"

	"pannier/api"
)

// mark returns the mark of a dot with a quantity and a time, and item an item.
func mark(replica, counter, q int, time uint64) api.Mark {
	return api.Mark{Dot: at(replica, counter), Qty: q, Time: time}
}
func item(name string, marks ...api.Mark) api.Item { return api.Item{Name: name, Marks: marks} }

// at returns a dot, and dots those of pairs of a replica and a counter.
func at(replica, counter int) api.Dot { return api.Dot{Replica: replica, Counter: counter} }
func dots(l ...int) []api.Dot {
	var out []api.Dot
	for i := 0; i+1 < len(l); i += 2 {
		out = append(out, at(l[i], l[i+1]))
	}
	return out
}

// con returns the context whose vector has the first n of some dots, and whose cloud the others, and with a cart.
func con(n int, l ...int) api.Context {
	d := dots(l...)
	return api.Context{Vector: d[:n], Cloud: d[n:]}
}
func with(seen api.Context, l ...api.Item) api.Cart { return api.Cart{Context: seen, Items: l} }

// alike is whether two carts are equal in all parts, element by element, by the definition.
func alike(a, b api.Cart) bool {
	return slices.Equal(a.Context.Vector, b.Context.Vector) && slices.Equal(a.Context.Cloud, b.Context.Cloud) &&
		slices.EqualFunc(a.Items, b.Items, func(x, y api.Item) bool { return x.Name == y.Name && slices.Equal(x.Marks, y.Marks) })
}

// deep returns a cart that shares no memory with another one, so that it stays what it was.
func deep(c api.Cart) api.Cart {
	out := with(api.Context{Vector: append(api.Vector{}, c.Context.Vector...), Cloud: append([]api.Dot{}, c.Context.Cloud...)})
	for _, x := range c.Items {
		out.Items = append(out.Items, item(strings.Clone(x.Name), append([]api.Mark{}, x.Marks...)...))
	}
	return out
}

// isDot, isMark and isName are whether a dot, a mark and a name are valid, by the definitions.
func isDot(d api.Dot) bool {
	return d.Replica > 0 && d.Replica < 65536 && d.Counter > 0 && d.Counter < 1<<32
}
func isMark(m api.Mark) bool { return isDot(m.Dot) && m.Qty > 0 && m.Qty < 1<<31 && m.Time > 0 }
func isName(s string) bool   { return len(s) <= 64 && words.MatchString(s) }

// words are words with single spaces between them.
var words = regexp.MustCompile(`^[!-~]+( [!-~]+)*$`)

// before is whether a dot comes before another one.
func before(a, b api.Dot) bool {
	return a.Counter < b.Counter || a.Counter == b.Counter && a.Replica < b.Replica
}

// isContext is whether a context is valid and compact, by the definitions.
func isContext(c api.Context) bool {
	for i, d := range c.Vector {
		if !isDot(d) || i > 0 && c.Vector[i-1].Replica >= d.Replica {
			return false
		}
	}
	for i, d := range c.Cloud {
		if !isDot(d) || i > 0 && !before(c.Cloud[i-1], d) || d.Counter <= last(c, d.Replica)+1 {
			return false
		}
	}
	return true
}

// last is the counter of a replica in the vector of a context, and in whether a valid dot is in the context.
func last(c api.Context, replica int) int {
	for _, d := range c.Vector {
		if d.Replica == replica {
			return d.Counter
		}
	}
	return 0
}
func in(c api.Context, d api.Dot) bool {
	return d.Counter <= last(c, d.Replica) || slices.Contains(c.Cloud, d)
}

// isCart is whether a cart is valid, by the definitions.
func isCart(c api.Cart) bool {
	seen := map[api.Dot]bool{}
	for i, x := range c.Items {
		if !isName(x.Name) || len(x.Marks) == 0 || i > 0 && c.Items[i-1].Name >= x.Name {
			return false
		}
		for k, m := range x.Marks {
			if !isMark(m) || k > 0 && !before(x.Marks[k-1].Dot, m.Dot) || seen[m.Dot] || !in(c.Context, m.Dot) {
				return false
			}
			seen[m.Dot] = true
		}
	}
	return isContext(c.Context)
}

// num are the bytes of a number: its digits to the base 128, the lowest one first.
func num(n uint64) []byte {
	if n < 128 {
		return []byte{byte(n)}
	}
	return append([]byte{byte(128 + n%128)}, num(n/128)...)
}

// text are the bytes of a string, list those of some dots, and seen those of a context.
func text(s string) []byte { return append(num(uint64(len(s))), s...) }
func list(l []api.Dot) []byte {
	out := num(uint64(len(l)))
	for _, d := range l {
		out = append(append(out, num(uint64(d.Replica))...), num(uint64(d.Counter))...)
	}
	return out
}
func seen(c api.Context) []byte { return append(list(c.Vector), list(c.Cloud)...) }

// whole are the bytes of a valid cart, by the definition.
func whole(c api.Cart) []byte {
	out := append(seen(c.Context), num(uint64(len(c.Items)))...)
	for _, x := range c.Items {
		out = append(append(out, text(x.Name)...), num(uint64(len(x.Marks)))...)
		for _, m := range x.Marks {
			for _, n := range []uint64{uint64(m.Dot.Replica), uint64(m.Dot.Counter), uint64(m.Qty), m.Time} {
				out = append(out, num(n)...)
			}
		}
	}
	return out
}

// order is which one of two lists of bytes comes first, by the definition.
func order(a, b []byte) int {
	for i := 0; i < len(a) || i < len(b); i++ {
		switch {
		case i == len(a):
			return -1
		case i == len(b):
			return 1
		case a[i] < b[i]:
			return -1
		case a[i] > b[i]:
			return 1
		}
	}
	return 0
}

// back takes the bytes of a cart off the front of some bytes: what it finds depends on nothing that comes after them.
type back struct{ left []byte }

func (r *back) num() uint64 {
	b := r.left[0]
	r.left = r.left[1:]
	if b < 128 {
		return uint64(b)
	}
	return uint64(b-128) + 128*r.num()
}
func (r *back) dot() api.Dot { return at(int(r.num()), int(r.num())) }
func (r *back) dots() []api.Dot {
	var out []api.Dot
	for range r.num() {
		out = append(out, r.dot())
	}
	return out
}
func (r *back) name() string {
	n := r.num()
	s := string(r.left[:n])
	r.left = r.left[n:]
	return s
}
func (r *back) cart() api.Cart {
	c := with(api.Context{Vector: r.dots(), Cloud: r.dots()})
	for range r.num() {
		x := item(r.name())
		for range r.num() {
			x.Marks = append(x.Marks, api.Mark{Dot: r.dot(), Qty: int(r.num()), Time: r.num()})
		}
		c.Items = append(c.Items, x)
	}
	return c
}

// heads are bytes to append to: none, some, many, such as look like numbers that go on, and those of a cart.
func heads() [][]byte {
	return [][]byte{nil, {}, {0}, {7, 7}, {128, 255}, slices.Repeat([]byte{200}, 1000), whole(full()), make([]byte, 0, 5000), make([]byte, 3, 5000)}
}

// hold looks at a cart with all functions but Compare, and returns its bytes.
func hold(t *testing.T, c api.Cart) []byte {
	t.Helper()
	want, wrong := []byte(nil), api.ErrArg
	if isCart(c) {
		want, wrong = whole(c), api.OK
	}
	b, err := Encode(c)
	if !slices.Equal(b, want) || err != wrong {
		t.Fatal("Encode", c, b, err)
	}
	if n, err := Size(c); n != len(want) || err != wrong {
		t.Fatal("Size", c, n, err)
	}
	for _, head := range heads() {
		both := slices.Concat(head, want)
		if wrong != api.OK {
			both = nil
		}
		if b, err := Append(head, c); !slices.Equal(b, both) || err != wrong {
			t.Fatal("Append", head, c, b, err)
		}
	}
	holdContext(t, c.Context)
	return b
}

// holdContext looks at a context.
func holdContext(t *testing.T, c api.Context) {
	t.Helper()
	want, wrong := []byte(nil), api.ErrArg
	if isContext(c) {
		want, wrong = seen(c), api.OK
	}
	if b, err := Context(c); !slices.Equal(b, want) || err != wrong {
		t.Fatal("Context", c, b, err)
	}
}

// holdPair compares two carts, both ways.
func holdPair(t *testing.T, a, b api.Cart) {
	t.Helper()
	want, wrong := 0, api.ErrArg
	if isCart(a) && isCart(b) {
		want, wrong = order(whole(a), whole(b)), api.OK
	}
	if n, err := Compare(a, b); n != want || err != wrong {
		t.Error("Compare", a, b, n, err)
	}
	if n, err := Compare(b, a); n != -want || err != wrong {
		t.Error("Compare", b, a, n, err)
	}
}

// Some carts: that of the chapter's examples, and one with several items, a cloud, a gap, and marks of several replicas.
var (
	one, two = mark(1, 1, 5, 3), mark(2, 1, 7, 4)
	nut      = item("Nut", two)
	tea      = item("Tea", one, mark(1, 2, 2, 9))
	oil      = item("Oil", mark(3, 5, 1, 1))
)

func given() api.Cart { return deep(with(con(1, 2, 3, 5, 9), item("tea", mark(2, 3, 200, 1)))) }
func full() api.Cart  { return deep(with(con(2, 1, 2, 2, 4, 3, 5, 9, 9), nut, oil, tea)) }

// wide is a cart that has seen each counter of some replicas up to the greatest one, so that marks may have any dots of them.
func wide(l ...api.Item) api.Cart {
	return with(con(4, 1, api.MaxCounter, 127, api.MaxCounter, 128, api.MaxCounter, 65535, api.MaxCounter), l...)
}

// badContexts are contexts that are not compact, and such as are not even valid, each of them for one reason alone.
func badContexts() []api.Context {
	out := []api.Context{
		// A dot of the cloud is in the vector, or is the next one.
		con(0, 1, 1), con(0, 1, 1, 1, 2), con(0, 65535, 1), con(1, 1, 1, 1, 2), con(1, 1, 2, 1, 2), con(1, 1, 2, 1, 1), con(2, 1, 2, 2, 4, 1, 1, 3, 5), con(2, 1, 2, 2, 4, 2, 5, 3, 5), con(2, 1, 2, 2, 4, 9, 1, 3, 5), con(1, 1, api.MaxCounter, 1, api.MaxCounter), con(1, 1, api.MaxCounter-1, 1, api.MaxCounter),
		// The vector or the cloud is not in order, or has something twice.
		con(2, 2, 1, 1, 1), con(2, 1, 1, 1, 1), con(2, 1, 1, 1, 2), con(2, 1, 2, 1, 1), con(3, 1, 1, 3, 1, 2, 1), con(0, 1, 5, 1, 3), con(0, 1, 3, 1, 3), con(0, 2, 3, 1, 3), con(2, 2, 4, 1, 2, 3, 5, 9, 9), con(2, 1, 2, 2, 4, 9, 9, 3, 5), con(2, 1, 2, 2, 4, 3, 5, 9, 9, 9, 9),
	}
	for _, d := range dots(0, 7, 7, 0, -1, 7, 7, -1, 65536, 7, 65537, 7, 7, 4294967296, 7, 4294967303, math.MaxInt, 7, 7, math.MaxInt, math.MinInt, 7, 7, math.MinInt, 0, 0) {
		good := con(2, 1, 2, 2, 4, 3, 5)
		out = append(out, api.Context{Vector: api.Vector{d}}, api.Context{Cloud: []api.Dot{d}},
			api.Context{Vector: slices.Insert(slices.Clone(good.Vector), 0, d), Cloud: good.Cloud}, api.Context{Vector: append(slices.Clone(good.Vector), d), Cloud: good.Cloud},
			api.Context{Vector: good.Vector, Cloud: slices.Insert(slices.Clone(good.Cloud), 0, d)}, api.Context{Vector: good.Vector, Cloud: append(slices.Clone(good.Cloud), d)})
	}
	return out
}

// badCarts are carts that are not valid, each of them for one reason alone, near to a cart that is.
func badCarts() []api.Cart {
	known := full().Context
	out := []api.Cart{
		// A dot that was not seen: of a mark in front, in the middle and behind.
		with(con(0), item("Tea", one)), with(con(1, 1, 2, 3, 5), nut, oil, tea), with(con(2, 1, 2, 2, 4), nut, oil, tea), with(con(2, 1, 1, 2, 4, 3, 5), nut, oil, tea), with(con(1, 2, 4, 1, 2, 3, 5), nut, oil, tea),
		// Items that are not in order, that are there twice, or that share a dot.
		with(known, oil, nut, tea), with(known, nut, tea, oil), with(known, nut, nut), with(known, item("Tea", tea.Marks[0]), item("Tea", tea.Marks[1])), with(known, nut, oil, item("Tea", one, two)), with(known, item("Ale", one), nut, oil, tea),
		// Marks that are not in order, or twice.
		with(known, nut, oil, item("Tea", tea.Marks[1], tea.Marks[0])), with(known, nut, oil, item("Tea", one, one)), with(known, nut, oil, item("Tea", one, mark(1, 1, 6, 3))),
		// Items and marks that are not valid by themselves.
		with(known, item("Nut"), oil, tea), with(known, nut, oil, item("Tea")), with(known, item("", two), oil, tea), with(known, api.Item{}), with(known, item("Tea", api.Mark{})), with(known, nut, item("Oil", mark(3, 5, 1, 0)), tea),
	}
	for _, name := range []string{" ", "Tea ", " Tea", "Te  a", "Te\na", "Te\ta", "T\u00e9", "\xff", "\x00", "\x7f", strings.Repeat("t", 65), strings.Repeat("t", 1<<14)} {
		out = append(out, with(known, item(name, one)), with(known, item(name, one), item("~", two)))
	}
	for _, q := range []int{0, -1, -127, 2147483648, 4294967297, math.MaxInt, math.MinInt} {
		out = append(out, with(known, item("Tea", mark(1, 1, q, 3))), with(known, nut, oil, item("Tea", one, mark(1, 2, q, 9))))
	}
	for _, d := range dots(0, 1, 1, 0, -1, 1, 1, -1, 65536, 1, 65537, 1, 1, 4294967296, 1, 4294967297, math.MinInt, math.MaxInt) {
		out = append(out, with(known, item("Tea", api.Mark{Dot: d, Qty: 5, Time: 3})), with(known, nut, oil, item("Tea", one, api.Mark{Dot: d, Qty: 5, Time: 3})))
	}
	for _, c := range badContexts() {
		out = append(out, with(c))
		if in(c, at(1, 1)) {
			out = append(out, with(c, item("Tea", one)))
		}
	}
	return out
}

// P14.1 to P14.3: the examples of the chapter.
func TestExamples(t *testing.T) {
	if b, err := Encode(api.Cart{}); !slices.Equal(b, []byte{0, 0, 0}) || err != api.OK {
		t.Error(b, err)
	}
	want := []byte{1, 2, 3, 1, 5, 9, 1, 3, 116, 101, 97, 1, 2, 3, 200, 1, 1}
	if b, err := Encode(given()); !slices.Equal(b, want) || err != api.OK {
		t.Error(b, err)
	}
	if b, err := Context(given().Context); !slices.Equal(b, want[:6]) || err != api.OK {
		t.Error(b, err)
	}
	if n, err := Size(given()); n != 17 || err != api.OK {
		t.Error(n, err)
	}
	if b, err := Append([]byte{7, 7}, api.Cart{}); !slices.Equal(b, []byte{7, 7, 0, 0, 0}) || err != api.OK {
		t.Error(b, err)
	}
	if n, err := Compare(api.Cart{}, given()); n != -1 || err != api.OK {
		t.Error(n, err)
	}
	if n, err := Compare(given(), given()); n != 0 || err != api.OK {
		t.Error(n, err)
	}
	c := given()
	c.Context.Vector = nil
	if b, err := Encode(c); len(b) != 0 || err != api.ErrArg {
		t.Error(b, err)
	}
}

// P14.1 and P14.2: carts whose bytes are written down here.
func TestKnown(t *testing.T) {
	longest := strings.Repeat("x", 64)
	for _, x := range []struct {
		c    api.Cart
		want []byte
	}{
		{api.Cart{}, []byte{0, 0, 0}},
		{api.Cart{Context: api.Context{Vector: api.Vector{}, Cloud: []api.Dot{}}, Items: []api.Item{}}, []byte{0, 0, 0}},
		// Only a vector, only a cloud, both, and neither.
		{with(con(1, 1, 1)), []byte{1, 1, 1, 0, 0}},
		{with(con(2, 1, 9, 2, 8)), []byte{2, 1, 9, 2, 8, 0, 0}},
		{with(con(0, 1, 2)), []byte{0, 1, 1, 2, 0}},
		{with(con(0, 2, 2, 1, 3)), []byte{0, 2, 2, 2, 1, 3, 0}},
		{with(con(1, 3, 4, 3, 6)), []byte{1, 3, 4, 1, 3, 6, 0}},
		{with(con(1, 65535, api.MaxCounter)), []byte{1, 255, 255, 3, 255, 255, 255, 255, 15, 0, 0}},
		{with(con(0, 65535, api.MaxCounter)), []byte{0, 1, 255, 255, 3, 255, 255, 255, 255, 15, 0}},
		// Items whose marks are in the vector, and in the cloud; the shortest and the longest name.
		{with(con(1, 1, 1), item("a", mark(1, 1, 1, 1))), []byte{1, 1, 1, 0, 1, 1, 'a', 1, 1, 1, 1, 1}},
		{with(con(0, 1, 2), item("~", mark(1, 2, 3, 4))), []byte{0, 1, 1, 2, 1, 1, '~', 1, 1, 2, 3, 4}},
		{with(con(1, 1, 1), item(longest, mark(1, 1, 1, 1))), slices.Concat([]byte{1, 1, 1, 0, 1, 64}, []byte(longest), []byte{1, 1, 1, 1, 1})},
		{with(con(1, 1, 1), item("a !\"~ b", mark(1, 1, 1, 1))), []byte{1, 1, 1, 0, 1, 7, 'a', ' ', '!', '"', '~', ' ', 'b', 1, 1, 1, 1, 1}},
		// Several items and several marks.
		{full(), []byte{2, 1, 2, 2, 4, 2, 3, 5, 9, 9, 3, 3, 'N', 'u', 't', 1, 2, 1, 7, 4, 3, 'O', 'i', 'l', 1, 3, 5, 1, 1, 3, 'T', 'e', 'a', 2, 1, 1, 5, 3, 1, 2, 2, 9}},
		// The greatest mark.
		{with(con(1, 65535, api.MaxCounter), item("a", mark(65535, api.MaxCounter, api.MaxQty, math.MaxUint64))), []byte{1, 255, 255, 3, 255, 255, 255, 255, 15, 0, 1, 1, 'a', 1, 255, 255, 3, 255, 255, 255, 255, 15, 255, 255, 255, 255, 7, 255, 255, 255, 255, 255, 255, 255, 255, 255, 1}},
	} {
		if b, err := Encode(x.c); !slices.Equal(b, x.want) || err != api.OK {
			t.Error(x.c, b, err)
		}
		if b, err := Append([]byte{1, 2}, x.c); !slices.Equal(b, append([]byte{1, 2}, x.want...)) || err != api.OK {
			t.Error(x.c, b, err)
		}
		if n, err := Size(x.c); n != len(x.want) || err != api.OK {
			t.Error(x.c, n, err)
		}
		hold(t, x.c)
	}
}

// steps are the numbers up to a greatest one at which a number's bytes grow longer, or change in another way, and those next to them.
func steps(most uint64) []uint64 {
	out := []uint64{1, 2, most}
	if most > 2 {
		out = append(out, most-1)
	}
	for bit := range 64 {
		for _, n := range []uint64{1<<bit - 1, 1 << bit, 1<<bit + 1} {
			if n > 0 && n <= most {
				out = append(out, n)
			}
		}
	}
	slices.Sort(out)
	return slices.Compact(out)
}

// P14.1 and P14.2: each number of a cart, by itself, at all places at which its bytes grow longer.
func TestNumbers(t *testing.T) {
	for _, n := range steps(api.MaxReplica) {
		r := int(n)
		hold(t, with(con(1, r, 7)))
		hold(t, with(con(0, r, 7)))
		hold(t, with(con(1, r, 7), item("a", mark(r, 5, 1, 1))))
	}
	for _, n := range steps(api.MaxCounter) {
		k := int(n)
		hold(t, with(con(1, 7, k)))
		hold(t, with(con(0, 7, k)))
		hold(t, with(con(1, 7, k), item("a", mark(7, k, 1, 1))))
		hold(t, wide(item("a", mark(128, k, 1, 1))))
	}
	for _, n := range steps(api.MaxQty) {
		hold(t, with(con(1, 1, 1), item("a", mark(1, 1, int(n), 1))))
		hold(t, with(con(1, 1, 2), item("a", mark(1, 1, 1, 1), mark(1, 2, int(n), 1))))
	}
	for _, n := range steps(math.MaxUint64) {
		hold(t, with(con(1, 1, 1), item("a", mark(1, 1, 1, n))))
		hold(t, with(con(1, 1, 2), item("a", mark(1, 1, 1, n)), item("b", mark(1, 2, 1, 1))))
	}
}

// P14.1: each number that is one too great or too small for its place.
func TestBeyond(t *testing.T) {
	for _, c := range []api.Cart{
		with(con(1, api.MaxReplica+1, 7)), with(con(0, api.MaxReplica+1, 7)), with(con(1, 0, 7)), with(con(0, 0, 7)), with(con(1, 7, api.MaxCounter+1)), with(con(0, 7, api.MaxCounter+1)), with(con(1, 7, 0)), with(con(0, 7, 0)), with(con(0, 7, 1)),
		wide(item("a", mark(1, api.MaxCounter+1, 1, 1))), wide(item("a", mark(1, 0, 1, 1))), wide(item("a", mark(api.MaxReplica+1, 1, 1, 1))), wide(item("a", mark(0, 1, 1, 1))), wide(item("a", mark(1, 1, api.MaxQty+1, 1))), wide(item("a", mark(1, 1, 0, 1))), wide(item("a", mark(1, 1, 1, 0))),
	} {
		if b, err := Encode(c); len(b) != 0 || err != api.ErrArg {
			t.Error(c, b, err)
		}
		hold(t, c)
	}
}

// P14.1 and P14.2: lists whose lengths grow longer than one byte, and then than two.
func TestLengths(t *testing.T) {
	for _, n := range []int{1, 2, 126, 127, 128, 129, 255, 256, 257, 16383, 16384, 16385} {
		var v, cloud, next []api.Dot
		var marks []api.Mark
		var l []api.Item
		for i := 1; i <= n; i++ {
			v, cloud, next = append(v, at(i, i)), append(cloud, at(3, 2*i)), append(next, at(i+1, 2))
			marks = append(marks, mark(1, i, i, uint64(i)))
			l = append(l, item("a"+strconv.Itoa(100000+i), mark(1, i, i, uint64(i))))
		}
		for _, c := range []api.Cart{with(api.Context{Vector: v}), with(api.Context{Cloud: cloud}), with(api.Context{Cloud: next}), with(con(1, 1, n), l...), with(con(1, 1, n), item("a", marks...)), with(api.Context{Vector: dots(1, n), Cloud: next}, item("a", marks...))} {
			if !isCart(c) {
				t.Fatal(n)
			}
			hold(t, c)
		}
	}
	for n := range 67 {
		hold(t, with(con(1, 1, 1), item(strings.Repeat("n", n), one)))
	}
}

// few are all carts out of some contexts and short lists of some items, valid ones and others.
func few() []api.Cart {
	contexts := []api.Context{
		con(0), con(1, 1, 1), con(1, 1, 2), con(2, 1, 1, 2, 1), con(2, 1, 3, 2, 2), con(0, 1, 2), con(0, 1, 2, 2, 2), con(1, 2, 1, 1, 2, 1, 3), con(1, 1, 1, 1, 3), con(2, 1, 2, 9, 9, 3, 3), con(1, 1, 300), con(1, 1, 200),
		con(0, 1, 1), con(1, 1, 2, 1, 2), con(1, 1, 1, 1, 2), con(2, 2, 2, 1, 3), con(0, 2, 2, 1, 2), con(1, 0, 1),
	}
	kinds := []api.Item{
		item("a", mark(1, 1, 5, 3)), item("a", mark(1, 1, 5, 300)), item("a", mark(2, 1, 9, 9), mark(1, 2, 2, 9)), item("ab", mark(2, 2, 1, 1)), item("a b", mark(1, 2, 7, math.MaxUint64)), item("B", mark(1, 3, 1, 1)), item("b", mark(2, 1, 7, 4)),
		item("c"), item("", mark(1, 2, 5, 5)), item("c", mark(1, 2, 0, 1)), item("c", mark(1, 2, 2, 9), mark(2, 1, 9, 9)),
	}
	lists := [][]api.Item{nil}
	for _, x := range kinds {
		lists = append(lists, []api.Item{x})
		for _, y := range kinds {
			lists = append(lists, []api.Item{x, y})
		}
	}
	for _, x := range []int{5, 6} {
		lists = append(lists, []api.Item{kinds[5], kinds[0], kinds[4], kinds[x]})
	}
	var out []api.Cart
	for _, c := range contexts {
		for _, l := range lists {
			out = append(out, with(c, l...))
		}
	}
	return out
}

// P14.1 to P14.4: all short carts by the definitions, what their bytes are read as, and all pairs of the valid ones.
func TestFew(t *testing.T) {
	var valid []api.Cart
	for _, c := range few() {
		b := hold(t, c)
		if !isCart(c) {
			continue
		}
		valid = append(valid, c)
		r := back{b}
		if len(b) < 3 || !alike(r.cart(), c) || len(r.left) > 0 {
			t.Error(c, b)
		}
	}
	if len(valid) < 80 {
		t.Fatal(len(valid))
	}
	for i, a := range valid {
		for _, b := range valid[i:] {
			holdPair(t, a, b)
			x, _ := Encode(a)
			y, _ := Encode(b)
			if alike(a, b) != slices.Equal(x, y) || len(x) < len(y) && slices.Equal(x, y[:len(x)]) || len(y) < len(x) && slices.Equal(y, x[:len(y)]) {
				t.Error(a, b, x, y)
			}
		}
	}
}

// grid are all contexts of up to two dots in the vector and two in the cloud out of some, in all orders.
func grid() []api.Context {
	some := append(dots(1, 1, 1, 2, 2, 1, 2, 3, 1, 4), at(0, 1))
	lists := [][]api.Dot{nil}
	for _, d := range some {
		lists = append(lists, []api.Dot{d})
		for _, e := range some {
			lists = append(lists, []api.Dot{d, e})
		}
	}
	var out []api.Context
	for _, v := range lists {
		for _, l := range lists {
			out = append(out, api.Context{Vector: v, Cloud: l})
		}
	}
	return out
}

// P14.1: all small contexts, compact ones and others, and that a cart begins with the bytes of its context.
func TestContexts(t *testing.T) {
	compact := 0
	for _, c := range grid() {
		holdContext(t, c)
		b, err := Context(c)
		all, other := Encode(with(c))
		if err != other || isContext(c) != (err == api.OK) || err == api.OK && !slices.Equal(all, append(b, 0)) {
			t.Error(c, b, err, all, other)
		}
		if err == api.OK {
			compact++
		}
	}
	if compact < 40 {
		t.Error(compact)
	}
	for _, c := range badContexts() {
		if b, err := Context(c); len(b) != 0 || err != api.ErrArg {
			t.Error(c, b, err)
		}
	}
	for _, c := range []api.Context{{}, {Vector: api.Vector{}, Cloud: []api.Dot{}}} {
		if b, err := Context(c); !slices.Equal(b, []byte{0, 0}) || err != api.OK {
			t.Error(b, err)
		}
	}
}

// P14.1 to P14.3: carts that are wrong for one reason alone are refused by all functions, on whichever side they stand.
func TestInvalid(t *testing.T) {
	for _, c := range badCarts() {
		if isCart(c) {
			t.Fatal(c)
		}
		if b, err := Encode(c); len(b) != 0 || err != api.ErrArg {
			t.Error(c, b, err)
		}
		if b, err := Append([]byte{1, 2, 3}, c); len(b) != 0 || err != api.ErrArg {
			t.Error(c, b, err)
		}
		if n, err := Size(c); n != 0 || err != api.ErrArg {
			t.Error(c, n, err)
		}
		for _, other := range []api.Cart{{}, given(), full(), c, badCarts()[0]} {
			if n, err := Compare(c, other); n != 0 || err != api.ErrArg {
				t.Error(c, other, n, err)
			}
			if n, err := Compare(other, c); n != 0 || err != api.ErrArg {
				t.Error(other, c, n, err)
			}
		}
		hold(t, c)
	}
}

// P14.2: bytes to append to that are nil, empty, or have spare capacity, behind which the memory stays what it was.
func TestAppend(t *testing.T) {
	for _, c := range []api.Cart{{}, given(), full(), with(con(0, 1, 1)), with(full().Context, tea, nut)} {
		for _, size := range []int{0, 1, 2, 3, 17, 64} {
			for _, spare := range []int{0, 1, 2, 3, 16, 17, 18, 100} {
				memory := slices.Repeat([]byte{99}, size+spare)
				head := memory[:size]
				b, err := Append(head, c)
				if isCart(c) && (err != api.OK || !slices.Equal(b, append(slices.Clone(head), whole(c)...))) || !isCart(c) && (err != api.ErrArg || len(b) != 0) {
					t.Error(size, spare, c, b, err)
				}
				if slices.ContainsFunc(memory, func(x byte) bool { return x != 99 }) || len(memory) != size+spare {
					t.Error(size, spare, c, memory)
				}
			}
		}
	}
	// The same bytes are the beginning of two results, which stay apart.
	head := append(make([]byte, 0, 100), 1, 2, 3)
	first, _ := Append(head, given())
	second, err := Append(head, full())
	if !slices.Equal(first, append([]byte{1, 2, 3}, whole(given())...)) || !slices.Equal(second, append([]byte{1, 2, 3}, whole(full())...)) || err != api.OK {
		t.Error(first, second, err)
	}
	// One cart behind the other.
	both, err := Append(first, full())
	if !slices.Equal(both, slices.Concat([]byte{1, 2, 3}, whole(given()), whole(full()))) || err != api.OK {
		t.Error(both, err)
	}
	r := back{both[3:]}
	if !alike(r.cart(), given()) || !alike(r.cart(), full()) || len(r.left) > 0 {
		t.Error(both)
	}
}

// P14.3: carts in the order of their bytes, as written down here, each of them before all later ones.
func TestOrder(t *testing.T) {
	a := func(m ...api.Mark) api.Cart { return with(con(2, 1, 300, 2, 1), item("a", m...)) }
	l := []api.Cart{
		{},
		// Only the context is different: the number of dots in the vector comes first, also before a cloud.
		with(con(0, 1, 2)), with(con(0, 1, 3)), with(con(0, 2, 2)), with(con(0, 1, 2, 1, 4)), with(con(0, 2, 2, 1, 4)),
		with(con(1, 1, 1)), with(con(1, 1, 1), item("a", mark(1, 1, 1, 1))), with(con(1, 1, 1, 1, 3)), with(con(1, 1, 2)),
		// Bytes are compared, and not numbers: 256 is 128 2, 128 is 128 1, 129 is 129 1, and 255 is 255 1.
		with(con(1, 1, 127)), with(con(1, 1, 128)), with(con(1, 1, 256)), with(con(1, 1, 16384)), with(con(1, 1, 129)), with(con(1, 1, 255)), with(con(1, 1, 16383)), with(con(1, 1, api.MaxCounter)), with(con(1, 2, 1)), with(con(1, 128, 1)), with(con(1, 256, 1)), with(con(1, 129, 1)),
		// The number of items, and then the length of the name, before the name.
		a(mark(1, 1, 1, 1)), a(mark(1, 1, 1, 2)), a(mark(1, 1, 1, 127)), a(mark(1, 1, 1, 128)), a(mark(1, 1, 1, 16384)), a(mark(1, 1, 1, 1<<63)), a(mark(1, 1, 1, 129)), a(mark(1, 1, 1, math.MaxUint64)), a(mark(1, 1, 2, 1)), a(mark(1, 1, 128, 1)), a(mark(1, 1, api.MaxQty, 1)), a(mark(1, 2, 1, 1)), a(mark(1, 300, 1, 1)), a(mark(2, 1, 1, 1)), a(mark(1, 1, 1, 1), mark(2, 1, 1, 1)), a(mark(1, 1, 1, 2), mark(2, 1, 1, 1)), a(mark(2, 1, 1, 1), mark(1, 2, 1, 1)),
		with(con(2, 1, 300, 2, 1), item("b", mark(1, 1, 1, 1))), with(con(2, 1, 300, 2, 1), item("~", mark(1, 1, 1, 1))), with(con(2, 1, 300, 2, 1), item("Tea", mark(1, 1, 1, 1))), with(con(2, 1, 300, 2, 1), item("a b", mark(1, 1, 1, 1))),
		with(con(2, 1, 300, 2, 1), item("A", mark(1, 1, 1, 1)), item("B", mark(1, 2, 1, 1))), with(con(2, 1, 301, 2, 1), item("a", mark(1, 1, 1, 1))),
	}
	for i, x := range l {
		for k, y := range l {
			want := 0
			if i < k {
				want = -1
			} else if i > k {
				want = 1
			}
			if n, err := Compare(x, y); n != want || err != api.OK {
				t.Error(i, k, n, err)
			}
		}
	}
}

// P14.3: carts whose bytes differ only in the last byte, only in a length, or only in the context.
func TestNear(t *testing.T) {
	last := full()
	last.Items[2].Marks[1].Time = 10
	x, _ := Encode(full())
	y, _ := Encode(last)
	if n, err := Compare(full(), last); n != -1 || err != api.OK || len(x) != len(y) || !slices.Equal(x[:len(x)-1], y[:len(y)-1]) {
		t.Error(n, err, x, y)
	}
	longer := full()
	longer.Items[2].Marks[1].Time = 128 + 9
	if n, err := Compare(full(), longer); n != -1 || err != api.OK {
		t.Error(n, err)
	}
	// All but the context is the same: one dot of the vector, one of the cloud, one dot more, one less.
	for _, c := range []api.Context{con(2, 1, 3, 2, 4, 3, 5, 9, 9), con(2, 1, 2, 2, 4, 3, 5, 9, 10), con(2, 1, 2, 2, 4, 3, 5, 9, 9, 9, 11), con(3, 1, 2, 2, 4, 10, 1, 3, 5, 9, 9)} {
		other := full()
		other.Context = c
		if n, err := Compare(full(), other); n != -1 || err != api.OK {
			t.Error(c, n, err)
		}
		if n, err := Compare(other, full()); n != 1 || err != api.OK {
			t.Error(c, n, err)
		}
		hold(t, other)
	}
	less := full()
	less.Context.Cloud = less.Context.Cloud[:1]
	if n, err := Compare(less, full()); n != -1 || err != api.OK {
		t.Error(n, err)
	}
	// Nil and empty lists are the same.
	if n, err := Compare(api.Cart{}, api.Cart{Context: api.Context{Vector: api.Vector{}, Cloud: []api.Dot{}}, Items: []api.Item{}}); n != 0 || err != api.OK {
		t.Error(n, err)
	}
	if n, err := Compare(deep(with(con(1, 1, 2), tea)), with(con(1, 1, 2), tea)); n != 0 || err != api.OK {
		t.Error(n, err)
	}
}

// changed are carts that differ from a cart in one part alone, valid ones and others.
func changed(c api.Cart) []api.Cart {
	var out []api.Cart
	change := func(f func(c *api.Cart)) {
		d := deep(c)
		f(&d)
		out = append(out, d)
	}
	for _, by := range []int{-1, 1, 128, 1 << 14} {
		for i := range c.Context.Vector {
			change(func(c *api.Cart) { c.Context.Vector[i].Counter += by })
			change(func(c *api.Cart) { c.Context.Vector[i].Replica += by })
		}
		for i := range c.Context.Cloud {
			change(func(c *api.Cart) { c.Context.Cloud[i].Counter += by })
			change(func(c *api.Cart) { c.Context.Cloud[i].Replica += by })
		}
		for i, x := range c.Items {
			for k := range x.Marks {
				change(func(c *api.Cart) { c.Items[i].Marks[k].Dot.Counter += by })
				change(func(c *api.Cart) { c.Items[i].Marks[k].Dot.Replica += by })
				change(func(c *api.Cart) { c.Items[i].Marks[k].Qty += by })
				change(func(c *api.Cart) { c.Items[i].Marks[k].Time += uint64(by) })
			}
		}
	}
	for i := range c.Context.Vector {
		change(func(c *api.Cart) { c.Context.Vector = slices.Delete(c.Context.Vector, i, i+1) })
	}
	for i := range c.Context.Cloud {
		change(func(c *api.Cart) { c.Context.Cloud = slices.Delete(c.Context.Cloud, i, i+1) })
	}
	for i, x := range c.Items {
		for _, name := range []string{"", x.Name + "s", x.Name[1:], "~" + x.Name, x.Name + " "} {
			change(func(c *api.Cart) { c.Items[i].Name = name })
		}
		change(func(c *api.Cart) { c.Items = slices.Delete(c.Items, i, i+1) })
		for k := range x.Marks {
			change(func(c *api.Cart) { c.Items[i].Marks = slices.Delete(c.Items[i].Marks, k, k+1) })
		}
	}
	return out
}

// P14.1 to P14.4: whatever is changed in one part of a cart, its bytes are others, or it is refused.
func TestChanged(t *testing.T) {
	far := with(con(3, 1, 127, 2, 128, 3, 16384, 4, 300, 3, 70000), item("Nut", mark(1, 127, 128, 127), mark(2, 127, 16383, 1<<35-1)), item("Tea nut", mark(1, 1, 1, 1), mark(3, 70000, api.MaxQty, math.MaxUint64-1)))
	for _, c := range []api.Cart{given(), full(), far} {
		b := hold(t, c)
		if !isCart(c) {
			t.Fatal(c)
		}
		valid, others := 0, changed(c)
		for _, d := range others {
			if x := hold(t, d); slices.Equal(x, b) {
				t.Error(c, d, x)
			}
			holdPair(t, c, d)
			if isCart(d) {
				valid++
			}
		}
		if valid < 5 || len(others)-valid < 5 {
			t.Error(valid, len(others))
		}
	}
}

// random returns a valid cart: the dots of a few replicas were seen or not, some of them have marks in one of a few items.
func random(r *rand.Rand) api.Cart {
	var c api.Cart
	marks := map[string][]api.Mark{}
	size := 1 + r.Intn(8)
	for replica := 1; replica <= 3; replica++ {
		known := r.Intn(size)
		if known > 0 {
			c.Context.Vector = append(c.Context.Vector, at(replica*60, known))
		}
	}
	for counter := 1; counter <= 2*size; counter++ {
		for replica := 60; replica <= 180; replica += 60 {
			d := at(replica, counter)
			if counter > last(c.Context, replica)+1 && r.Intn(2*size) == 0 {
				c.Context.Cloud = append(c.Context.Cloud, d)
			}
			if in(c.Context, d) && r.Intn(2) == 0 {
				name := []string{"A", "Apple", "B", "Red apple", "a"}[r.Intn(5)]
				marks[name] = append(marks[name], api.Mark{Dot: d, Qty: 1 + r.Intn(1<<r.Intn(31)), Time: r.Uint64()>>r.Intn(63) | 1})
			}
		}
	}
	for _, name := range []string{"A", "Apple", "B", "Red apple", "a"} {
		if len(marks[name]) > 0 {
			c.Items = append(c.Items, item(name, marks[name]...))
		}
	}
	return c
}

// P14.4: of random carts the bytes are equal just if the carts are, none begin others, each is read back, and Compare is an order.
func TestConsequences(t *testing.T) {
	r := rand.New(rand.NewSource(14))
	l := []api.Cart{{}}
	for range 300 {
		c := random(r)
		if !isCart(c) {
			t.Fatal(c)
		}
		l = append(l, c)
	}
	l = append(l, changed(l[7])...)
	l = slices.DeleteFunc(l, func(c api.Cart) bool { return !isCart(c) })
	compare := func(a, b api.Cart) int {
		n, err := Compare(a, b)
		if err != api.OK {
			t.Fatal(a, b, err)
		}
		return n
	}
	slices.SortFunc(l, compare)
	for i, a := range l {
		x := hold(t, a)
		end := back{append(slices.Clone(x), 1, 2, 3)}
		if c := end.cart(); !alike(c, a) || len(end.left) != 3 || len(x) < 3 {
			t.Fatal(a, x)
		}
		for k, b := range l {
			y, _ := Encode(b)
			n := compare(a, b)
			if (n == 0) != alike(a, b) || slices.Equal(x, y) != alike(a, b) || n != order(x, y) || n != -compare(b, a) || i < k && n > 0 {
				t.Fatal(a, b, n)
			}
			if len(x) < len(y) && slices.Equal(x, y[:len(x)]) {
				t.Fatal(a, b, "the bytes of one begin those of the other")
			}
		}
	}
}

// P14.4: no beginning of the bytes of a cart, and nothing that is longer, are the bytes of a cart.
func TestBeginnings(t *testing.T) {
	all := map[string]bool{}
	for _, c := range few() {
		if b, err := Encode(c); err == api.OK {
			all[string(b)] = true
		}
	}
	for s := range all {
		for n := range s {
			if all[s[:n]] {
				t.Errorf("%q begins %q", s[:n], s)
			}
		}
	}
}

// P1: long lists at each place, and carts of them that are wrong at the end.
func TestLong(t *testing.T) {
	const size = 1 << 16
	var items api.Cart
	items.Context = con(1, 1, size)
	for i := range size {
		items.Items = append(items.Items, item("Item "+strconv.Itoa(100000+i), mark(1, 1+i, 1+i, uint64(1+i))))
	}
	var marks api.Cart
	x := item("Tea")
	for replica := 1; replica <= api.MaxReplica; replica++ {
		marks.Context.Vector = append(marks.Context.Vector, at(replica, 1))
		x.Marks = append(x.Marks, mark(replica, 1, replica, math.MaxUint64))
	}
	marks.Items = []api.Item{x}
	var cloud api.Cart
	for i := range 1 << 17 {
		cloud.Context.Cloud = append(cloud.Context.Cloud, at(1, 2+2*i))
	}
	for _, c := range []api.Cart{items, marks, cloud} {
		want := whole(c)
		if b, err := Encode(c); !slices.Equal(b, want) || err != api.OK {
			t.Error(len(b), err)
		}
		if n, err := Size(c); n != len(want) || err != api.OK {
			t.Error(n, err)
		}
		if n, err := Compare(c, c); n != 0 || err != api.OK {
			t.Error(n, err)
		}
	}
	// They are the same up to the end.
	other := deep(items)
	other.Items[size-1].Marks[0].Time++
	if n, err := Compare(items, other); n != -1 || err != api.OK {
		t.Error(n, err)
	}
	other.Items[size-1].Marks[0].Time = 0
	marks.Items[0].Marks[api.MaxReplica-1].Qty = 0
	cloud.Context.Cloud[len(cloud.Context.Cloud)-1].Counter = api.MaxCounter + 1
	for _, c := range []api.Cart{other, marks, cloud} {
		if b, err := Append([]byte{1}, c); len(b) != 0 || err != api.ErrArg {
			t.Error(len(b), err)
		}
	}
}

// span is the memory of a slice, up to its capacity, or of a string.
type span struct{ from, to uintptr }

func sliceSpan[T any](l []T) span {
	var one T
	from := uintptr(unsafe.Pointer(unsafe.SliceData(l)))
	return span{from, from + uintptr(cap(l))*unsafe.Sizeof(one)}
}
func stringSpan(s string) span {
	from := uintptr(unsafe.Pointer(unsafe.StringData(s)))
	return span{from, from + uintptr(len(s))}
}

// overlap is whether two spans share memory, spans are those of a cart.
func overlap(a, b span) bool { return max(a.from, b.from) < min(a.to, b.to) }
func spans(c api.Cart) []span {
	out := []span{sliceSpan(c.Context.Vector), sliceSpan(c.Context.Cloud), sliceSpan(c.Items)}
	for _, x := range c.Items {
		out = append(out, stringSpan(x.Name), sliceSpan(x.Marks))
	}
	return out
}

// someCarts are carts, some of which are not valid, with dots, marks and items behind the ends of their lists.
func someCarts() []api.Cart {
	out := []api.Cart{{}, full(), given(), with(con(2, 1, 2, 2, 4, 9, 9)), with(con(1, 1, 2), tea), with(con(2, 1, 2, 2, 4, 9, 9), tea, nut), with(con(1, 1, 1, 1, 2), tea)}
	for i, c := range out {
		c = deep(c)
		for k, x := range c.Items {
			c.Items[k].Marks = append(x.Marks, mark(8, 8, 8, 8))[:len(x.Marks)]
		}
		c.Context.Vector = append(c.Context.Vector, dots(8, 8)...)[:len(c.Context.Vector)]
		c.Context.Cloud = append(c.Context.Cloud, dots(8, 8)...)[:len(c.Context.Cloud)]
		c.Items = append(c.Items, item("Behind", mark(8, 8, 8, 8)))[:len(c.Items)]
		out[i] = c
	}
	return out
}

// open is a cart with what is behind the ends of its lists.
func open(c api.Cart) api.Cart {
	c.Context.Vector, c.Context.Cloud = c.Context.Vector[:len(c.Context.Vector)+1], c.Context.Cloud[:len(c.Context.Cloud)+1]
	c.Items = slices.Clone(c.Items[:len(c.Items)+1])
	for k, x := range c.Items[:len(c.Items)-1] {
		c.Items[k].Marks = x.Marks[:len(x.Marks)+1]
	}
	return c
}

// spoil changes all that a cart has, also behind the ends of its lists.
func spoil(c api.Cart) {
	bad := mark(-9, -9, -9, 9)
	for _, l := range [][]api.Dot{c.Context.Vector, c.Context.Cloud} {
		for i := range l[:cap(l)] {
			l[:cap(l)][i] = bad.Dot
		}
	}
	for _, x := range c.Items {
		for i := range x.Marks[:cap(x.Marks)] {
			x.Marks[:cap(x.Marks)][i] = bad
		}
	}
	for i := range c.Items[:cap(c.Items)] {
		c.Items[:cap(c.Items)][i] = item("spoilt", bad)
	}
}

// results are the bytes that calls with a cart and some bytes return, each call made twice.
func results(head []byte, c api.Cart) [][]byte {
	var out [][]byte
	for range 2 {
		first, _ := Encode(c)
		second, _ := Append(head, c)
		third, _ := Context(c.Context)
		Size(c)
		Compare(c, full())
		Compare(full(), c)
		Compare(c, c)
		out = append(out, first, second, third)
	}
	return out
}

// head are bytes with others behind their end.
func head() []byte { return append(make([]byte, 0, 64), 1, 2, 3, 9, 9, 9)[:3] }

// The rules: no call changes its arguments, not even behind the ends of their lists, and equal calls have equal results.
func TestArgumentsStay(t *testing.T) {
	for _, c := range someCarts() {
		before, b := deep(open(c)), head()
		l := results(b, c)
		if !alike(open(c), before) || !slices.Equal(b[:6], []byte{1, 2, 3, 9, 9, 9}) || slices.ContainsFunc(b[6:cap(b)], func(x byte) bool { return x != 0 }) {
			t.Error(before, c, b[:cap(b)])
		}
		if half := len(l) / 2; !slices.EqualFunc(l[:half], l[half:], slices.Equal) {
			t.Error(c, l)
		}
	}
}

// The rules: whatever is changed in a result, the arguments and the other results stay what they were; whatever is changed in an argument, the results do.
func TestNewMemory(t *testing.T) {
	for _, c := range someCarts() {
		before, b := deep(open(c)), head()
		l := results(b, c)
		var kept [][]byte
		for _, x := range l {
			kept = append(kept, slices.Clone(x))
		}
		for n, x := range l {
			x = x[:cap(x)]
			for i := range x {
				x[i] = 77
			}
			if !slices.EqualFunc(l[n+1:], kept[n+1:], slices.Equal) || !alike(open(c), before) || !slices.Equal(b[:6], []byte{1, 2, 3, 9, 9, 9}) {
				t.Fatal(before, n)
			}
		}
		l = results(b, c)
		spoil(c)
		for i := range b[:cap(b)] {
			b[:cap(b)][i] = 77
		}
		if !slices.EqualFunc(l, kept, slices.Equal) {
			t.Error(before, l)
		}
	}
}

// The rules: no two of the arguments and results share memory, not even behind their ends.
func TestNothingShared(t *testing.T) {
	for _, c := range someCarts() {
		b := head()
		given := append(spans(c), sliceSpan(b))
		var l []span
		for _, x := range results(b, c) {
			l = append(l, sliceSpan(x))
		}
		for n, x := range l {
			if slices.ContainsFunc(slices.Concat(given, l[n+1:]), func(y span) bool { return overlap(x, y) }) {
				t.Fatal(c, n)
			}
		}
	}
}
