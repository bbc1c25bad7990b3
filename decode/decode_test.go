package decode

import (
	"errors"
	"math"
	"math/rand"
	"regexp"
	"runtime"
	"slices"
	"strconv"
	"strings"
	"testing"
	"unsafe"

	"pannier/api"
	"pannier/bytes"
	"pannier/canon"
)

// mark returns the mark of a dot with a quantity and a time, and item an item.
func mark(replica, counter, q int, time uint64) api.Mark {
	return api.Mark{Dot: at(replica, counter), Qty: q, Time: time}
}
func item(name string, marks ...api.Mark) api.Item { return api.Item{Name: name, Marks: marks} }

// at returns a dot, and dots those of pairs of a replica and a counter.
func at(replica, counter int) api.Dot { return api.Dot{Replica: replica, Counter: counter} }
func dots(l ...int) []api.Dot {
	var out []api.Dot
	for i := 0; i+1 < len(l); i += 2 {
		out = append(out, at(l[i], l[i+1]))
	}
	return out
}

// con returns the context whose vector has the first n of some dots, and whose cloud the others, and with a cart.
func con(n int, l ...int) api.Context {
	d := dots(l...)
	return api.Context{Vector: d[:n], Cloud: d[n:]}
}
func with(seen api.Context, l ...api.Item) api.Cart { return api.Cart{Context: seen, Items: l} }

// alike is whether two carts are equal in all parts, element by element, by the definition.
func alike(a, b api.Cart) bool {
	return slices.Equal(a.Context.Vector, b.Context.Vector) && slices.Equal(a.Context.Cloud, b.Context.Cloud) &&
		slices.EqualFunc(a.Items, b.Items, func(x, y api.Item) bool { return x.Name == y.Name && slices.Equal(x.Marks, y.Marks) })
}

// deep returns a cart that shares no memory with another one, so that it stays what it was.
func deep(c api.Cart) api.Cart {
	out := with(api.Context{Vector: append(api.Vector{}, c.Context.Vector...), Cloud: append([]api.Dot{}, c.Context.Cloud...)})
	for _, x := range c.Items {
		out.Items = append(out.Items, item(strings.Clone(x.Name), append([]api.Mark{}, x.Marks...)...))
	}
	return out
}

// isDot, isMark and isName are whether a dot, a mark and a name are valid, by the definitions.
func isDot(d api.Dot) bool {
	return d.Replica > 0 && d.Replica < 65536 && d.Counter > 0 && d.Counter < 1<<32
}
func isMark(m api.Mark) bool { return isDot(m.Dot) && m.Qty > 0 && m.Qty < 1<<31 && m.Time > 0 }
func isName(s string) bool   { return len(s) <= 64 && words.MatchString(s) }

// words are words with single spaces between them.
var words = regexp.MustCompile(`^[!-~]+( [!-~]+)*$`)

// before is whether a dot comes before another one.
func before(a, b api.Dot) bool {
	return a.Counter < b.Counter || a.Counter == b.Counter && a.Replica < b.Replica
}

// isContext is whether a context is valid and compact, by the definitions.
func isContext(c api.Context) bool {
	for i, d := range c.Vector {
		if !isDot(d) || i > 0 && c.Vector[i-1].Replica >= d.Replica {
			return false
		}
	}
	for i, d := range c.Cloud {
		if !isDot(d) || i > 0 && !before(c.Cloud[i-1], d) || d.Counter <= last(c, d.Replica)+1 {
			return false
		}
	}
	return true
}

// last is the counter of a replica in the vector of a context, and in whether a valid dot is in the context.
func last(c api.Context, replica int) int {
	for _, d := range c.Vector {
		if d.Replica == replica {
			return d.Counter
		}
	}
	return 0
}
func in(c api.Context, d api.Dot) bool {
	return d.Counter <= last(c, d.Replica) || slices.Contains(c.Cloud, d)
}

// isCart is whether a cart is valid, by the definitions.
func isCart(c api.Cart) bool {
	seen := map[api.Dot]bool{}
	for i, x := range c.Items {
		if !isName(x.Name) || len(x.Marks) == 0 || i > 0 && c.Items[i-1].Name >= x.Name {
			return false
		}
		for k, m := range x.Marks {
			if !isMark(m) || k > 0 && !before(x.Marks[k-1].Dot, m.Dot) || seen[m.Dot] || !in(c.Context, m.Dot) {
				return false
			}
			seen[m.Dot] = true
		}
	}
	return isContext(c.Context)
}

// num are the bytes of a number: its digits to the base 128, the lowest one first.
func num(n uint64) []byte {
	if n < 128 {
		return []byte{byte(n)}
	}
	return append([]byte{byte(128 + n%128)}, num(n/128)...)
}

// piece is a number, or the bytes of a name, as a part of what is written.
type piece struct {
	bytes  []byte
	number bool
}

func number(n int) piece { return piece{num(uint64(n)), true} }

// dotPieces, seenPieces and pieces are all parts of some dots, of a context and of a cart, by the definitions.
func dotPieces(l []api.Dot) []piece {
	out := []piece{number(len(l))}
	for _, d := range l {
		out = append(out, number(d.Replica), number(d.Counter))
	}
	return out
}
func seenPieces(c api.Context) []piece { return append(dotPieces(c.Vector), dotPieces(c.Cloud)...) }
func pieces(c api.Cart) []piece {
	out := append(seenPieces(c.Context), number(len(c.Items)))
	for _, x := range c.Items {
		out = append(out, number(len(x.Name)), piece{[]byte(x.Name), false}, number(len(x.Marks)))
		for _, m := range x.Marks {
			out = append(out, number(m.Dot.Replica), number(m.Dot.Counter), number(m.Qty), piece{num(m.Time), true})
		}
	}
	return out
}

// put are the bytes of some parts, seen those of a context, and whole those of a cart; what is below 0 becomes a great number.
func put(l []piece) []byte {
	var out []byte
	for _, p := range l {
		out = append(out, p.bytes...)
	}
	return out
}
func seen(c api.Context) []byte { return put(seenPieces(c)) }
func whole(c api.Cart) []byte   { return put(pieces(c)) }

// back reads bytes as loosely as it can be done: numbers may have any bytes, and nothing need be valid.
type back struct {
	left []byte
	bad  bool
}

func (r *back) num() uint64 {
	if len(r.left) == 0 {
		r.bad = true
		return 0
	}
	b := r.left[0]
	r.left = r.left[1:]
	if b < 128 {
		return uint64(b)
	}
	return uint64(b-128) + 128*r.num()
}

// many is how many of something there are: not more than there are bytes.
func (r *back) many() int {
	n := r.num()
	if n > uint64(len(r.left)) {
		r.bad = true
		return 0
	}
	return int(n)
}
func (r *back) dot() api.Dot { return at(int(r.num()), int(r.num())) }
func (r *back) dots() []api.Dot {
	var out []api.Dot
	for range r.many() {
		out = append(out, r.dot())
	}
	return out
}
func (r *back) name() string {
	n := r.many()
	s := string(r.left[:n])
	r.left = r.left[n:]
	return s
}
func (r *back) context() api.Context { return api.Context{Vector: r.dots(), Cloud: r.dots()} }
func (r *back) cart() api.Cart {
	c := with(r.context())
	for range r.many() {
		x := item(r.name())
		for range r.many() {
			x.Marks = append(x.Marks, api.Mark{Dot: r.dot(), Qty: int(r.num()), Time: r.num()})
		}
		c.Items = append(c.Items, x)
	}
	return c
}

// begins is the cart whose bytes some bytes begin with, by the definition: what they may say at best is valid, and has just these bytes.
func begins(b []byte) (api.Cart, int, bool) {
	r := back{left: b}
	c := r.cart()
	if r.bad || !isCart(c) {
		return api.Cart{}, 0, false
	}
	own := whole(c)
	if len(own) > len(b) || !slices.Equal(own, b[:len(own)]) {
		return api.Cart{}, 0, false
	}
	return c, len(own), true
}

// isSeen is the context whose bytes some bytes are, and many is how many carts they are.
func isSeen(b []byte) (api.Context, bool) {
	r := back{left: b}
	c := r.context()
	if r.bad || !isContext(c) || !slices.Equal(seen(c), b) {
		return api.Context{}, false
	}
	return c, true
}
func many(b []byte) (int, bool) {
	n := 0
	for len(b) > 0 {
		_, size, ok := begins(b)
		if !ok {
			return 0, false
		}
		b = b[size:]
		n++
	}
	return n, true
}

// wrong is the error of a call that returns something or not.
func wrong(ok bool) api.Errno {
	if ok {
		return api.OK
	}
	return api.ErrMalformed
}

// hold looks at some bytes with all functions, which leave them as they are, and returns whether they are a cart.
func hold(t *testing.T, b []byte) bool {
	t.Helper()
	kept := slices.Clone(b)
	first, size, ok := begins(b)
	all := ok && size == len(b)
	if c, n, err := Prefix(b); !alike(c, first) || n != size || err != wrong(ok) {
		t.Fatal("Prefix", b, c, n, err)
	}
	if !all {
		first = api.Cart{}
	}
	if c, err := Cart(b); !alike(c, first) || err != wrong(all) {
		t.Fatal("Cart", b, c, err)
	}
	known, is := isSeen(b)
	if c, err := Context(b); !alike(with(c), with(known)) || err != wrong(is) {
		t.Fatal("Context", b, c, err)
	}
	carts, are := many(b)
	if n, err := Count(b); n != carts || err != wrong(are) {
		t.Fatal("Count", b, n, err)
	}
	if !slices.Equal(b, kept) {
		t.Fatal("the bytes were changed", kept, b)
	}
	return all
}

// refused is whether all functions but Context refuse some bytes, with zero values.
func refused(t *testing.T, b []byte) {
	t.Helper()
	if c, err := Cart(b); !alike(c, api.Cart{}) || err != api.ErrMalformed {
		t.Fatal("Cart", b, c, err)
	}
	if c, n, err := Prefix(b); !alike(c, api.Cart{}) || n != 0 || err != api.ErrMalformed {
		t.Fatal("Prefix", b, c, n, err)
	}
	if n, err := Count(b); n != 0 || err != api.ErrMalformed {
		t.Fatal("Count", b, n, err)
	}
}

// accepted is whether all functions but Context take some bytes to be a cart.
func accepted(t *testing.T, b []byte, want api.Cart) {
	t.Helper()
	if c, err := Cart(b); !alike(c, want) || err != api.OK {
		t.Fatal("Cart", b, c, err)
	}
	if c, n, err := Prefix(b); !alike(c, want) || n != len(b) || err != api.OK {
		t.Fatal("Prefix", b, c, n, err)
	}
	if n, err := Count(b); n != 1 || err != api.OK {
		t.Fatal("Count", b, n, err)
	}
}

// Some carts: that of the chapter's examples, and one with several items, a cloud, a gap, and marks of several replicas.
var (
	one, two = mark(1, 1, 5, 3), mark(2, 1, 7, 4)
	nut      = item("Nut", two)
	tea      = item("Tea", one, mark(1, 2, 2, 9))
	oil      = item("Oil", mark(3, 5, 1, 1))
)

func given() api.Cart { return deep(with(con(1, 2, 3, 5, 9), item("tea", mark(2, 3, 200, 1)))) }
func full() api.Cart  { return deep(with(con(2, 1, 2, 2, 4, 3, 5, 9, 9), nut, oil, tea)) }

// wide is a cart that has seen each counter of some replicas up to the greatest one, so that marks may have any dots of them.
func wide(l ...api.Item) api.Cart {
	return with(con(4, 1, api.MaxCounter, 127, api.MaxCounter, 128, api.MaxCounter, 65535, api.MaxCounter), l...)
}

// badContexts are contexts that are not compact, and such as are not even valid, each of them for one reason alone.
func badContexts() []api.Context {
	out := []api.Context{
		// A dot of the cloud is in the vector, or is the next one.
		con(0, 1, 1), con(0, 1, 1, 1, 2), con(0, 65535, 1), con(1, 1, 1, 1, 2), con(1, 1, 2, 1, 2), con(1, 1, 2, 1, 1), con(2, 1, 2, 2, 4, 1, 1, 3, 5), con(2, 1, 2, 2, 4, 2, 5, 3, 5), con(2, 1, 2, 2, 4, 9, 1, 3, 5), con(1, 1, api.MaxCounter, 1, api.MaxCounter), con(1, 1, api.MaxCounter-1, 1, api.MaxCounter),
		// The vector or the cloud is not in order, or has something twice.
		con(2, 2, 1, 1, 1), con(2, 1, 1, 1, 1), con(2, 1, 1, 1, 2), con(2, 1, 2, 1, 1), con(3, 1, 1, 3, 1, 2, 1), con(0, 1, 5, 1, 3), con(0, 1, 3, 1, 3), con(0, 2, 3, 1, 3), con(2, 2, 4, 1, 2, 3, 5, 9, 9), con(2, 1, 2, 2, 4, 9, 9, 3, 5), con(2, 1, 2, 2, 4, 3, 5, 9, 9, 9, 9),
	}
	for _, d := range dots(0, 7, 7, 0, -1, 7, 7, -1, 65536, 7, 65537, 7, 7, 4294967296, 7, 4294967303, math.MaxInt, 7, 7, math.MaxInt, math.MinInt, 7, 7, math.MinInt, 0, 0) {
		good := con(2, 1, 2, 2, 4, 3, 5)
		out = append(out, api.Context{Vector: api.Vector{d}}, api.Context{Cloud: []api.Dot{d}},
			api.Context{Vector: slices.Insert(slices.Clone(good.Vector), 0, d), Cloud: good.Cloud}, api.Context{Vector: append(slices.Clone(good.Vector), d), Cloud: good.Cloud},
			api.Context{Vector: good.Vector, Cloud: slices.Insert(slices.Clone(good.Cloud), 0, d)}, api.Context{Vector: good.Vector, Cloud: append(slices.Clone(good.Cloud), d)})
	}
	return out
}

// badCarts are carts that are not valid, each of them for one reason alone, near to a cart that is.
func badCarts() []api.Cart {
	known := full().Context
	out := []api.Cart{
		// A dot that was not seen: of a mark in front, in the middle and behind.
		with(con(0), item("Tea", one)), with(con(1, 1, 2, 3, 5), nut, oil, tea), with(con(2, 1, 2, 2, 4), nut, oil, tea), with(con(2, 1, 1, 2, 4, 3, 5), nut, oil, tea), with(con(1, 2, 4, 1, 2, 3, 5), nut, oil, tea),
		// Items that are not in order, that are there twice, or that share a dot.
		with(known, oil, nut, tea), with(known, nut, tea, oil), with(known, nut, nut), with(known, item("Tea", tea.Marks[0]), item("Tea", tea.Marks[1])), with(known, nut, oil, item("Tea", one, two)), with(known, item("Ale", one), nut, oil, tea),
		// Marks that are not in order, or twice.
		with(known, nut, oil, item("Tea", tea.Marks[1], tea.Marks[0])), with(known, nut, oil, item("Tea", one, one)), with(known, nut, oil, item("Tea", one, mark(1, 1, 6, 3))),
		// Items and marks that are not valid by themselves.
		with(known, item("Nut"), oil, tea), with(known, nut, oil, item("Tea")), with(known, item("", two), oil, tea), with(known, api.Item{}), with(known, item("Tea", api.Mark{})), with(known, nut, item("Oil", mark(3, 5, 1, 0)), tea),
	}
	for _, name := range []string{" ", "Tea ", " Tea", "Te  a", "Te\na", "Te\ta", "T\u00e9", "\xff", "\x00", "\x7f", strings.Repeat("t", 65), strings.Repeat("t", 1<<14)} {
		out = append(out, with(known, item(name, one)), with(known, item(name, one), item("~", two)))
	}
	for _, q := range []int{0, -1, -127, 2147483648, 4294967297, math.MaxInt, math.MinInt} {
		out = append(out, with(known, item("Tea", mark(1, 1, q, 3))), with(known, nut, oil, item("Tea", one, mark(1, 2, q, 9))))
	}
	for _, d := range dots(0, 1, 1, 0, -1, 1, 1, -1, 65536, 1, 65537, 1, 1, 4294967296, 1, 4294967297, math.MinInt, math.MaxInt) {
		out = append(out, with(known, item("Tea", api.Mark{Dot: d, Qty: 5, Time: 3})), with(known, nut, oil, item("Tea", one, api.Mark{Dot: d, Qty: 5, Time: 3})))
	}
	for _, c := range badContexts() {
		out = append(out, with(c))
		if in(c, at(1, 1)) {
			out = append(out, with(c, item("Tea", one)))
		}
	}
	return out
}

// steps are the numbers up to a greatest one at which a number's bytes grow longer, or change in another way, and those next to them.
func steps(most uint64) []uint64 {
	out := []uint64{1, 2, most}
	if most > 2 {
		out = append(out, most-1)
	}
	for bit := range 64 {
		for _, n := range []uint64{1<<bit - 1, 1 << bit, 1<<bit + 1} {
			if n > 0 && n <= most {
				out = append(out, n)
			}
		}
	}
	slices.Sort(out)
	return slices.Compact(out)
}

// few are all carts out of some contexts and short lists of some items, valid ones and others.
func few() []api.Cart {
	contexts := []api.Context{
		con(0), con(1, 1, 1), con(1, 1, 2), con(2, 1, 1, 2, 1), con(2, 1, 3, 2, 2), con(0, 1, 2), con(0, 1, 2, 2, 2), con(1, 2, 1, 1, 2, 1, 3), con(1, 1, 1, 1, 3), con(2, 1, 2, 9, 9, 3, 3), con(1, 1, 300), con(1, 1, 200),
		con(0, 1, 1), con(1, 1, 2, 1, 2), con(1, 1, 1, 1, 2), con(2, 2, 2, 1, 3), con(0, 2, 2, 1, 2), con(1, 0, 1),
	}
	kinds := []api.Item{
		item("a", mark(1, 1, 5, 3)), item("a", mark(1, 1, 5, 300)), item("a", mark(2, 1, 9, 9), mark(1, 2, 2, 9)), item("ab", mark(2, 2, 1, 1)), item("a b", mark(1, 2, 7, math.MaxUint64)), item("B", mark(1, 3, 1, 1)), item("b", mark(2, 1, 7, 4)),
		item("c"), item("", mark(1, 2, 5, 5)), item("c", mark(1, 2, 0, 1)), item("c", mark(1, 2, 2, 9), mark(2, 1, 9, 9)),
	}
	lists := [][]api.Item{nil}
	for _, x := range kinds {
		lists = append(lists, []api.Item{x})
		for _, y := range kinds {
			lists = append(lists, []api.Item{x, y})
		}
	}
	for _, x := range []int{5, 6} {
		lists = append(lists, []api.Item{kinds[5], kinds[0], kinds[4], kinds[x]})
	}
	var out []api.Cart
	for _, c := range contexts {
		for _, l := range lists {
			out = append(out, with(c, l...))
		}
	}
	return out
}

// grid are all contexts of up to two dots in the vector and two in the cloud out of some, in all orders.
func grid() []api.Context {
	some := append(dots(1, 1, 1, 2, 2, 1, 2, 3, 1, 4), at(0, 1))
	lists := [][]api.Dot{nil}
	for _, d := range some {
		lists = append(lists, []api.Dot{d})
		for _, e := range some {
			lists = append(lists, []api.Dot{d, e})
		}
	}
	var out []api.Context
	for _, v := range lists {
		for _, l := range lists {
			out = append(out, api.Context{Vector: v, Cloud: l})
		}
	}
	return out
}

// changed are carts that differ from a cart in one part alone, valid ones and others.
func changed(c api.Cart) []api.Cart {
	var out []api.Cart
	change := func(f func(c *api.Cart)) {
		d := deep(c)
		f(&d)
		out = append(out, d)
	}
	for _, by := range []int{-1, 1, 128, 1 << 14} {
		for i := range c.Context.Vector {
			change(func(c *api.Cart) { c.Context.Vector[i].Counter += by })
			change(func(c *api.Cart) { c.Context.Vector[i].Replica += by })
		}
		for i := range c.Context.Cloud {
			change(func(c *api.Cart) { c.Context.Cloud[i].Counter += by })
			change(func(c *api.Cart) { c.Context.Cloud[i].Replica += by })
		}
		for i, x := range c.Items {
			for k := range x.Marks {
				change(func(c *api.Cart) { c.Items[i].Marks[k].Dot.Counter += by })
				change(func(c *api.Cart) { c.Items[i].Marks[k].Dot.Replica += by })
				change(func(c *api.Cart) { c.Items[i].Marks[k].Qty += by })
				change(func(c *api.Cart) { c.Items[i].Marks[k].Time += uint64(by) })
			}
		}
	}
	for i := range c.Context.Vector {
		change(func(c *api.Cart) { c.Context.Vector = slices.Delete(c.Context.Vector, i, i+1) })
	}
	for i := range c.Context.Cloud {
		change(func(c *api.Cart) { c.Context.Cloud = slices.Delete(c.Context.Cloud, i, i+1) })
	}
	for i, x := range c.Items {
		for _, name := range []string{"", x.Name + "s", x.Name[1:], "~" + x.Name, x.Name + " "} {
			change(func(c *api.Cart) { c.Items[i].Name = name })
		}
		change(func(c *api.Cart) { c.Items = slices.Delete(c.Items, i, i+1) })
		for k := range x.Marks {
			change(func(c *api.Cart) { c.Items[i].Marks = slices.Delete(c.Items[i].Marks, k, k+1) })
		}
	}
	return out
}

// random returns a valid cart: the dots of a few replicas were seen or not, some of them have marks in one of a few items.
func random(r *rand.Rand) api.Cart {
	var c api.Cart
	marks := map[string][]api.Mark{}
	size := 1 + r.Intn(8)
	for replica := 1; replica <= 3; replica++ {
		known := r.Intn(size)
		if known > 0 {
			c.Context.Vector = append(c.Context.Vector, at(replica*60, known))
		}
	}
	for counter := 1; counter <= 2*size; counter++ {
		for replica := 60; replica <= 180; replica += 60 {
			d := at(replica, counter)
			if counter > last(c.Context, replica)+1 && r.Intn(2*size) == 0 {
				c.Context.Cloud = append(c.Context.Cloud, d)
			}
			if in(c.Context, d) && r.Intn(2) == 0 {
				name := []string{"A", "Apple", "B", "Red apple", "a"}[r.Intn(5)]
				marks[name] = append(marks[name], api.Mark{Dot: d, Qty: 1 + r.Intn(1<<r.Intn(31)), Time: r.Uint64()>>r.Intn(63) | 1})
			}
		}
	}
	for _, name := range []string{"A", "Apple", "B", "Red apple", "a"} {
		if len(marks[name]) > 0 {
			c.Items = append(c.Items, item(name, marks[name]...))
		}
	}
	return c
}

// P15.1 and P15.2: the examples of the chapter.
func TestExamples(t *testing.T) {
	c := []byte{1, 2, 3, 1, 5, 9, 1, 3, 116, 101, 97, 1, 2, 3, 200, 1, 1}
	accepted(t, []byte{0, 0, 0}, api.Cart{})
	accepted(t, c, given())
	for _, b := range [][]byte{{0, 0}, {0, 0, 0, 0}, {0, 0, 128, 0}, nil, {}, {0, 1, 5, 1, 0}} {
		if c, err := Cart(b); !alike(c, api.Cart{}) || err != api.ErrMalformed {
			t.Error(b, c, err)
		}
	}
	if c, n, err := Prefix([]byte{0, 0, 0, 7, 7}); !alike(c, api.Cart{}) || n != 3 || err != api.OK {
		t.Error(c, n, err)
	}
	if c, n, err := Prefix([]byte{7, 7}); !alike(c, api.Cart{}) || n != 0 || err != api.ErrMalformed {
		t.Error(c, n, err)
	}
	for _, x := range []struct {
		b    []byte
		want int
		err  api.Errno
	}{{[]byte{0, 0, 0, 1, 2, 3, 0, 0}, 2, api.OK}, {nil, 0, api.OK}, {[]byte{}, 0, api.OK}, {[]byte{0, 0, 0, 0}, 0, api.ErrMalformed}} {
		if n, err := Count(x.b); n != x.want || err != x.err {
			t.Error(x.b, n, err)
		}
	}
	if c, err := Context(c[:6]); !alike(with(c), with(given().Context)) || err != api.OK {
		t.Error(c, err)
	}
	if c, err := Context(c[:3]); !alike(with(c), api.Cart{}) || err != api.ErrMalformed {
		t.Error(c, err)
	}
}

// P15.1 and P15.2: carts that are written down here, with their bytes.
func TestKnown(t *testing.T) {
	longest := strings.Repeat("x", 64)
	for _, x := range []struct {
		b    []byte
		want api.Cart
	}{
		{[]byte{0, 0, 0}, api.Cart{}},
		// Only a vector, only a cloud, both.
		{[]byte{1, 1, 1, 0, 0}, with(con(1, 1, 1))},
		{[]byte{2, 1, 9, 2, 8, 0, 0}, with(con(2, 1, 9, 2, 8))},
		{[]byte{0, 1, 1, 2, 0}, with(con(0, 1, 2))},
		{[]byte{0, 2, 2, 2, 1, 3, 0}, with(con(0, 2, 2, 1, 3))},
		{[]byte{1, 3, 4, 1, 3, 6, 0}, with(con(1, 3, 4, 3, 6))},
		{[]byte{1, 255, 255, 3, 255, 255, 255, 255, 15, 0, 0}, with(con(1, 65535, api.MaxCounter))},
		{[]byte{0, 1, 255, 255, 3, 255, 255, 255, 255, 15, 0}, with(con(0, 65535, api.MaxCounter))},
		// Items whose marks are in the vector, and in the cloud; the shortest and the longest name.
		{[]byte{1, 1, 1, 0, 1, 1, 'a', 1, 1, 1, 1, 1}, with(con(1, 1, 1), item("a", mark(1, 1, 1, 1)))},
		{[]byte{0, 1, 1, 2, 1, 1, '~', 1, 1, 2, 3, 4}, with(con(0, 1, 2), item("~", mark(1, 2, 3, 4)))},
		{slices.Concat([]byte{1, 1, 1, 0, 1, 64}, []byte(longest), []byte{1, 1, 1, 1, 1}), with(con(1, 1, 1), item(longest, mark(1, 1, 1, 1)))},
		{[]byte{1, 1, 1, 0, 1, 7, 'a', ' ', '!', '"', '~', ' ', 'b', 1, 1, 1, 1, 1}, with(con(1, 1, 1), item("a !\"~ b", mark(1, 1, 1, 1)))},
		// Several items and several marks.
		{[]byte{2, 1, 2, 2, 4, 2, 3, 5, 9, 9, 3, 3, 'N', 'u', 't', 1, 2, 1, 7, 4, 3, 'O', 'i', 'l', 1, 3, 5, 1, 1, 3, 'T', 'e', 'a', 2, 1, 1, 5, 3, 1, 2, 2, 9}, full()},
		// The greatest mark.
		{[]byte{1, 255, 255, 3, 255, 255, 255, 255, 15, 0, 1, 1, 'a', 1, 255, 255, 3, 255, 255, 255, 255, 15, 255, 255, 255, 255, 7, 255, 255, 255, 255, 255, 255, 255, 255, 255, 1}, with(con(1, 65535, api.MaxCounter), item("a", mark(65535, api.MaxCounter, api.MaxQty, math.MaxUint64)))},
	} {
		accepted(t, x.b, x.want)
		if !hold(t, x.b) {
			t.Error(x.b)
		}
		// Something more, or less, is no cart any more.
		for _, b := range [][]byte{append(slices.Clone(x.b), 0), append(slices.Clone(x.b), x.b...), append([]byte{0}, x.b...), x.b[1:], x.b[:len(x.b)-1]} {
			if c, err := Cart(b); !alike(c, api.Cart{}) || err != api.ErrMalformed {
				t.Error(b, c, err)
			}
			hold(t, b)
		}
	}
}

// P15.1 and P15.2: bytes that no function takes for a cart, each for a reason that is written down here.
func TestRefused(t *testing.T) {
	for why, b := range map[string][]byte{
		"no bytes of the vector":                   {},
		"no bytes of the cloud":                    {0},
		"no bytes of the items":                    {0, 0},
		"no counter":                               {1, 1},
		"no dot":                                   {1},
		"one dot of two":                           {2, 1, 1},
		"no counter in the cloud":                  {0, 1, 1},
		"no end of a number":                       {1, 1, 129},
		"no end of a length":                       {0, 0, 128},
		"no name":                                  {1, 1, 1, 0, 1},
		"a part of a name":                         {1, 1, 1, 0, 1, 3, 'T', 'e'},
		"no number of marks":                       {1, 1, 1, 0, 1, 1, 'a'},
		"no marks":                                 {1, 1, 1, 0, 1, 1, 'a', 1},
		"no quantity":                              {1, 1, 1, 0, 1, 1, 'a', 1, 1, 1},
		"no time":                                  {1, 1, 1, 0, 1, 1, 'a', 1, 1, 1, 1},
		"one item of two":                          {1, 1, 1, 0, 2, 1, 'a', 1, 1, 1, 1, 1},
		"one mark of two":                          {1, 1, 2, 0, 1, 1, 'a', 2, 1, 1, 1, 1},
		"a number of two bytes for 0":              {128, 0, 0, 0},
		"a number of two bytes for 1":              {129, 0, 1, 1, 0, 0},
		"a number of three bytes for 128":          {1, 1, 128, 129, 0, 0, 0},
		"a length of two bytes for 1":              {1, 1, 1, 0, 1, 129, 0, 'a', 1, 1, 1, 1, 1},
		"a time of two bytes for 1":                {1, 1, 1, 0, 1, 1, 'a', 1, 1, 1, 1, 129, 0},
		"a time of eleven bytes":                   {1, 1, 1, 0, 1, 1, 'a', 1, 1, 1, 1, 255, 255, 255, 255, 255, 255, 255, 255, 255, 255, 1},
		"a time of eleven bytes for 1":             {1, 1, 1, 0, 1, 1, 'a', 1, 1, 1, 1, 129, 128, 128, 128, 128, 128, 128, 128, 128, 128, 0},
		"a time of 2^64":                           {1, 1, 1, 0, 1, 1, 'a', 1, 1, 1, 1, 128, 128, 128, 128, 128, 128, 128, 128, 128, 2},
		"a time of 2^64 + 1":                       {1, 1, 1, 0, 1, 1, 'a', 1, 1, 1, 1, 129, 128, 128, 128, 128, 128, 128, 128, 128, 2},
		"a number of dots that is 2^64":            {128, 128, 128, 128, 128, 128, 128, 128, 128, 2, 0, 0},
		"a number of dots that is 2^64 - 1":        {255, 255, 255, 255, 255, 255, 255, 255, 255, 1, 0, 0},
		"replica 0":                                {1, 0, 1, 0, 0},
		"counter 0":                                {1, 1, 0, 0, 0},
		"replica 0 in the cloud":                   {0, 1, 0, 5, 0},
		"counter 0 in the cloud":                   {0, 1, 1, 0, 0},
		"replica 65536":                            {1, 128, 128, 4, 1, 0, 0},
		"counter 4294967296":                       {1, 1, 128, 128, 128, 128, 16, 0, 0},
		"replica 65536 in the cloud":               {0, 1, 128, 128, 4, 5, 0},
		"counter 4294967296 in the cloud":          {0, 1, 1, 128, 128, 128, 128, 16, 0},
		"replica 2^64 - 1":                         {1, 255, 255, 255, 255, 255, 255, 255, 255, 255, 1, 1, 0, 0},
		"the vector in another order":              {2, 2, 1, 1, 1, 0, 0},
		"a replica twice":                          {2, 1, 1, 1, 2, 0, 0},
		"a dot of the vector twice":                {2, 1, 1, 1, 1, 0, 0},
		"the cloud in another order":               {0, 2, 1, 5, 1, 3, 0},
		"the cloud in the order of replicas":       {0, 2, 1, 5, 2, 3, 0},
		"equal counters in another order":          {0, 2, 2, 3, 1, 3, 0},
		"a dot of the cloud twice":                 {0, 2, 1, 3, 1, 3, 0},
		"the first dot in the cloud":               {0, 1, 1, 1, 0},
		"the next dot in the cloud":                {1, 1, 1, 1, 1, 2, 0},
		"a dot of the vector in the cloud":         {1, 1, 2, 1, 1, 2, 0},
		"a dot below the vector in the cloud":      {1, 1, 2, 1, 1, 1, 0},
		"an empty name":                            {1, 1, 1, 0, 1, 0, 1, 1, 1, 1, 1},
		"a name that is a space":                   {1, 1, 1, 0, 1, 1, ' ', 1, 1, 1, 1, 1},
		"a name with a space behind":               {1, 1, 1, 0, 1, 2, 'a', ' ', 1, 1, 1, 1, 1},
		"a name with a space in front":             {1, 1, 1, 0, 1, 2, ' ', 'a', 1, 1, 1, 1, 1},
		"a name with two spaces":                   {1, 1, 1, 0, 1, 4, 'a', ' ', ' ', 'a', 1, 1, 1, 1, 1},
		"a name with a line break":                 {1, 1, 1, 0, 1, 1, '\n', 1, 1, 1, 1, 1},
		"a name with 127":                          {1, 1, 1, 0, 1, 1, 127, 1, 1, 1, 1, 1},
		"a name with 255":                          {1, 1, 1, 0, 1, 1, 255, 1, 1, 1, 1, 1},
		"a name of 65 bytes":                       slices.Concat([]byte{1, 1, 1, 0, 1, 65}, []byte(strings.Repeat("x", 65)), []byte{1, 1, 1, 1, 1}),
		"an item without marks":                    {1, 1, 1, 0, 1, 1, 'a', 0},
		"an item without marks before another one": {1, 1, 1, 0, 2, 1, 'a', 0, 1, 'b', 1, 1, 1, 1, 1},
		"items in another order":                   {1, 1, 2, 0, 2, 1, 'b', 1, 1, 1, 1, 1, 1, 'a', 1, 1, 2, 1, 1},
		"an item twice":                            {1, 1, 2, 0, 2, 1, 'a', 1, 1, 1, 1, 1, 1, 'a', 1, 1, 2, 1, 1},
		"marks in another order":                   {1, 1, 2, 0, 1, 1, 'a', 2, 1, 2, 1, 1, 1, 1, 1, 1},
		"marks in the order of replicas":           {2, 1, 2, 2, 2, 0, 1, 1, 'a', 2, 1, 2, 1, 1, 2, 1, 1, 1},
		"a mark twice":                             {1, 1, 1, 0, 1, 1, 'a', 2, 1, 1, 1, 1, 1, 1, 1, 1},
		"a dot of two items":                       {1, 1, 1, 0, 2, 1, 'a', 1, 1, 1, 1, 1, 1, 'b', 1, 1, 1, 1, 1},
		"replica 0 of a mark":                      {1, 1, 1, 0, 1, 1, 'a', 1, 0, 1, 1, 1},
		"counter 0 of a mark":                      {1, 1, 1, 0, 1, 1, 'a', 1, 1, 0, 1, 1},
		"replica 65537 of a mark":                  {1, 1, 1, 0, 1, 1, 'a', 1, 129, 128, 4, 1, 1, 1},
		"counter 4294967297 of a mark":             {1, 1, 1, 0, 1, 1, 'a', 1, 1, 129, 128, 128, 128, 16, 1, 1},
		"quantity 0":                               {1, 1, 1, 0, 1, 1, 'a', 1, 1, 1, 0, 1},
		"quantity 2147483648":                      {1, 1, 1, 0, 1, 1, 'a', 1, 1, 1, 128, 128, 128, 128, 8, 1},
		"quantity 4294967297":                      {1, 1, 1, 0, 1, 1, 'a', 1, 1, 1, 129, 128, 128, 128, 16, 1},
		"time 0":                                   {1, 1, 1, 0, 1, 1, 'a', 1, 1, 1, 1, 0},
		"a mark of a dot that was not seen":        {0, 0, 1, 1, 'a', 1, 1, 1, 1, 1},
		"a mark beyond the vector":                 {1, 1, 1, 0, 1, 1, 'a', 1, 1, 2, 1, 1},
		"a mark of another replica":                {1, 1, 1, 0, 1, 1, 'a', 1, 2, 1, 1, 1},
		"a mark in a gap":                          {1, 1, 1, 1, 1, 4, 1, 1, 'a', 1, 1, 3, 1, 1},
		"one item more than there are":             {0, 0, 1},
		"127 items more than there are":            {0, 0, 127},
		"2^63 items":                               {0, 0, 128, 128, 128, 128, 128, 128, 128, 128, 128, 1},
		"2^64 - 1 items":                           {0, 0, 255, 255, 255, 255, 255, 255, 255, 255, 255, 1},
		"2^64 - 1 dots in the cloud":               {0, 255, 255, 255, 255, 255, 255, 255, 255, 255, 1, 0},
		"2^64 - 1 marks":                           {1, 1, 1, 0, 1, 1, 'a', 255, 255, 255, 255, 255, 255, 255, 255, 255, 1, 1, 1, 1, 1},
		"a name of 2^64 - 1 bytes":                 {1, 1, 1, 0, 1, 255, 255, 255, 255, 255, 255, 255, 255, 255, 1, 'a', 1, 1, 1, 1, 1},
		"a name of 2^63 bytes":                     {1, 1, 1, 0, 1, 128, 128, 128, 128, 128, 128, 128, 128, 128, 1, 'a', 1, 1, 1, 1, 1},
		"a name of 2^32 + 1 bytes":                 {1, 1, 1, 0, 1, 129, 128, 128, 128, 16, 'a', 1, 1, 1, 1, 1},
	} {
		// No bytes are no cart, but none is their number.
		if len(b) > 0 {
			refused(t, b)
		}
		if hold(t, b) {
			t.Error(why, b)
		}
	}
}

// everything are all lists of some bytes up to a length, behind a beginning.
func everything(head, some []byte, most int, f func(b []byte)) {
	f(slices.Clone(head))
	if most == 0 {
		return
	}
	for _, x := range some {
		everything(append(slices.Clone(head), x), some, most-1, f)
	}
}

// P15.1 to P15.3: all short lists of some bytes, by the definitions; contexts, and items behind a context.
func TestEverything(t *testing.T) {
	for _, x := range []struct {
		head, some []byte
		most       int
		least      int
	}{
		{nil, []byte{0, 1, 2, 3, 129}, 7, 40},
		{nil, []byte{0, 1, 2, 128}, 7, 20},
		{[]byte{1, 1, 2, 0}, []byte{0, 1, 2, 'a'}, 8, 4},
		{[]byte{2, 1, 2, 2, 200, 1, 0, 2, 1, 'a', 1, 1, 1, 1, 1, 1, 'b', 1}, []byte{0, 1, 2, 128, 200}, 6, 10},
	} {
		carts := 0
		everything(x.head, x.some, x.most, func(b []byte) {
			if hold(t, b) {
				carts++
			}
		})
		if carts < x.least {
			t.Error(x.head, carts)
		}
	}
}

// some are bytes of carts of all kinds.
func some() [][]byte {
	out := [][]byte{{0, 0, 0}, whole(given()), whole(full()), whole(wide(item("a", mark(128, 300, 1, 1)))), whole(wide(item("Red apple", mark(1, 128, 127, 1<<63), mark(65535, api.MaxCounter, api.MaxQty, math.MaxUint64)), item("Tea", mark(127, 16384, 16383, 1<<14)))), whole(with(con(2, 1, 2, 2, 4, 9, 9))), whole(with(con(0, 200, 300, 1, 1<<20)))}
	r := rand.New(rand.NewSource(15))
	for range 20 {
		out = append(out, whole(random(r)))
	}
	return out
}

// P15.1 to P15.3: bytes of carts in which one byte is another one, is missing or more, or two are swapped, and all of their beginnings and ends.
func TestOneByte(t *testing.T) {
	for n, b := range some() {
		if !hold(t, b) {
			t.Fatal(b)
		}
		for i := range b {
			if hold(t, b[:i]) {
				t.Error("a beginning is a cart", b[:i], b)
			}
			hold(t, b[i:])
			hold(t, slices.Delete(slices.Clone(b), i, i+1))
			for k := range i {
				c := slices.Clone(b)
				c[i], c[k] = c[k], c[i]
				hold(t, c)
			}
		}
		// All bytes are looked at in the first ones only.
		for x := 0; x < 256 && n < 6; x++ {
			for i := range b {
				c := slices.Clone(b)
				c[i] = byte(x)
				hold(t, c)
				hold(t, slices.Insert(slices.Clone(b), i, byte(x)))
			}
			hold(t, append(slices.Clone(b), byte(x)))
		}
	}
}

// stretched are the bytes of a number in more bytes than are needed, up to far more than ten.
func stretched(b []byte) [][]byte {
	var out [][]byte
	for len(b) < 23 {
		b = slices.Clone(b)
		b[len(b)-1] |= 128
		b = append(b, 0)
		out = append(out, b)
	}
	return out
}

// beyond are the bytes of a number to which a multiple of 2^64 is added, and such as never end.
func beyond(b []byte) [][]byte {
	long := slices.Clone(b)
	for len(long) < 10 {
		long[len(long)-1] |= 128
		long = append(long, 0)
	}
	var out [][]byte
	for _, x := range []byte{2, 4, 64, 126} {
		c := slices.Clone(long)
		c[9] |= x
		out = append(out, c)
		c = slices.Clone(c)
		c[9] |= 128
		out = append(out, append(c, 1))
	}
	return append(out, slices.Repeat([]byte{255}, 9), slices.Repeat([]byte{255}, 10), slices.Repeat([]byte{255}, 11), slices.Repeat([]byte{128}, 10), slices.Repeat([]byte{128}, 40))
}

// P15.1 to P15.3: each number of a cart in more bytes than it needs, with more than 64 bits, and without an end.
func TestEachNumberLonger(t *testing.T) {
	for _, c := range []api.Cart{{}, given(), full(), wide(item("Tea", mark(128, 300, 1000, 1<<40))), with(con(2, 1, 2, 2, 4, 9, 9))} {
		l := pieces(c)
		for i, p := range l {
			if !p.number {
				continue
			}
			for _, x := range append(stretched(p.bytes), beyond(p.bytes)...) {
				b := slices.Concat(put(l[:i]), x, put(l[i+1:]))
				refused(t, b)
				// The numbers that never end take what follows for their own end.
				hold(t, b)
				if end := len(seenPieces(c.Context)); i < end {
					b = slices.Concat(put(l[:i]), x, put(l[i+1:end]))
					if s, err := Context(b); !alike(with(s), api.Cart{}) || err != api.ErrMalformed {
						t.Fatal(b, s, err)
					}
				}
			}
		}
	}
}

// P15.1 to P15.3: each number of a cart is another one, up to the greatest one: those around its own, and those at which numbers grow longer.
func TestEachNumberOther(t *testing.T) {
	for _, c := range []api.Cart{{}, given(), full(), wide(item("Tea", mark(128, 300, 1000, 1<<40))), with(con(2, 1, 2, 2, 4, 9, 9))} {
		l := pieces(c)
		for i, p := range l {
			if !p.number {
				continue
			}
			r := back{left: p.bytes}
			own := r.num()
			for _, n := range append(steps(math.MaxUint64), 0, own-2, own-1, own+1, own+2, uint64(len(whole(c))), uint64(len(put(l[i+1:])))) {
				hold(t, slices.Concat(put(l[:i]), num(n), put(l[i+1:])))
			}
		}
	}
}

// P15.1: each number of a cart, by itself, at all places at which its bytes grow longer, and one too great.
func TestNumbers(t *testing.T) {
	for _, n := range steps(api.MaxReplica + 1) {
		r := int(n)
		for _, c := range []api.Cart{with(con(1, r, 7)), with(con(0, r, 7)), with(con(1, r, 7), item("a", mark(r, 5, 1, 1)))} {
			if hold(t, whole(c)) != (r <= api.MaxReplica) {
				t.Error(c)
			}
		}
	}
	for _, n := range steps(api.MaxCounter + 1) {
		k := int(n)
		for _, c := range []api.Cart{with(con(1, 7, k)), with(con(0, 7, k+1)), with(con(1, 7, k), item("a", mark(7, k, 1, 1))), wide(item("a", mark(128, k, 1, 1)))} {
			if c.Context.Cloud != nil && k == api.MaxCounter {
				continue
			}
			if hold(t, whole(c)) != (k <= api.MaxCounter) {
				t.Error(c)
			}
		}
	}
	for _, n := range steps(api.MaxQty + 1) {
		for _, c := range []api.Cart{with(con(1, 1, 1), item("a", mark(1, 1, int(n), 1))), with(con(1, 1, 2), item("a", mark(1, 1, 1, 1), mark(1, 2, int(n), 1)))} {
			if hold(t, whole(c)) != (n <= api.MaxQty) {
				t.Error(c)
			}
		}
	}
	for _, n := range steps(math.MaxUint64) {
		if !hold(t, whole(with(con(1, 1, 1), item("a", mark(1, 1, 1, n))))) || !hold(t, whole(with(con(1, 1, 2), item("a", mark(1, 1, 1, n)), item("b", mark(1, 2, 1, 1))))) {
			t.Error(n)
		}
	}
	for n := range 130 {
		if hold(t, whole(with(con(1, 1, 1), item(strings.Repeat("n", n), one)))) != (0 < n && n < 65) {
			t.Error(n)
		}
	}
	for x := range 256 {
		for _, name := range []string{string([]byte{byte(x)}), string([]byte{'a', byte(x)}), string([]byte{'a', byte(x), 'a'}), string([]byte{byte(x), 'a'})} {
			if hold(t, whole(with(con(1, 1, 1), item(name, one)))) != isName(name) {
				t.Error(name)
			}
		}
	}
}

// P15.1: lists whose lengths grow longer than one byte, and then than two.
func TestLengths(t *testing.T) {
	for _, n := range []int{1, 2, 126, 127, 128, 129, 255, 256, 257, 16383, 16384, 16385} {
		var v, cloud, next []api.Dot
		var marks []api.Mark
		var l []api.Item
		for i := 1; i <= n; i++ {
			v, cloud, next = append(v, at(i, i)), append(cloud, at(3, 2*i)), append(next, at(i+1, 2))
			marks = append(marks, mark(1, i, i, uint64(i)))
			l = append(l, item("a"+strconv.Itoa(100000+i), mark(1, i, i, uint64(i))))
		}
		for _, c := range []api.Cart{with(api.Context{Vector: v}), with(api.Context{Cloud: cloud}), with(api.Context{Cloud: next}), with(con(1, 1, n), l...), with(con(1, 1, n), item("a", marks...)), with(api.Context{Vector: dots(1, n), Cloud: next}, item("a", marks...))} {
			accepted(t, whole(c), c)
			if b := append(whole(c), 0); n < 1000 && hold(t, b) || n < 1000 && hold(t, b[:n]) {
				t.Error(n)
			}
			if s, err := Context(seen(c.Context)); !alike(with(s), with(c.Context)) || err != api.OK {
				t.Error(n, err)
			}
		}
	}
}

// P15.1 to P15.3: all carts of some contexts and items are read from their bytes, if they are valid; Cart inverts Encode, and Encode inverts Cart.
func TestFew(t *testing.T) {
	valid := 0
	for _, c := range few() {
		b, err := canon.Encode(c)
		if err != api.OK {
			if isCart(c) || hold(t, whole(c)) {
				t.Error(c)
			}
			continue
		}
		valid++
		accepted(t, b, c)
		again, err := canon.Encode(c)
		if !hold(t, b) || !slices.Equal(again, b) || err != api.OK {
			t.Error(c, b, err)
		}
	}
	if valid < 80 {
		t.Error(valid)
	}
}

// P15.1 and P15.3: all small contexts are read from their bytes, if they are compact, and no others; Context inverts that of layer 14.
func TestContexts(t *testing.T) {
	compact := 0
	for _, c := range append(grid(), badContexts()...) {
		want := api.Context{}
		if isContext(c) {
			want = c
			compact++
		}
		if s, err := Context(seen(c)); !alike(with(s), with(want)) || err != wrong(isContext(c)) {
			t.Error(c, s, err)
		}
		hold(t, seen(c))
		hold(t, whole(with(c)))
		b, err := canon.Context(c)
		if (err == api.OK) != isContext(c) || err == api.OK && !slices.Equal(b, seen(c)) {
			t.Error(c, b, err)
		}
	}
	if compact < 40 {
		t.Error(compact)
	}
	// Bytes that end within a context, and something behind it.
	for _, c := range []api.Context{{}, full().Context, wide().Context, con(0, 200, 300, 1, 1<<20)} {
		b := seen(c)
		for i := range b {
			if s, err := Context(b[:i]); !alike(with(s), api.Cart{}) || err != api.ErrMalformed {
				t.Error(b[:i], s, err)
			}
		}
		for x := range 256 {
			if s, err := Context(append(slices.Clone(b), byte(x))); !alike(with(s), api.Cart{}) || err != api.ErrMalformed {
				t.Error(b, x, s, err)
			}
		}
	}
	// Of nothing, and of carts, which have one number more.
	for _, b := range append(some(), nil, []byte{}) {
		if s, err := Context(b); !alike(with(s), api.Cart{}) || err != api.ErrMalformed {
			t.Error(b, s, err)
		}
	}
}

// P15.1 and P15.2: carts that are wrong for one reason alone are refused, also in front of others and behind them.
func TestInvalid(t *testing.T) {
	for _, c := range badCarts() {
		b := whole(c)
		if isCart(c) || hold(t, b) {
			t.Fatal(c)
		}
		if n, err := Count(slices.Concat(b, whole(full()))); n != 0 || err != api.ErrMalformed {
			t.Error(c, n, err)
		}
		if n, err := Count(slices.Concat(whole(full()), []byte{0, 0, 0}, b)); n != 0 || err != api.ErrMalformed {
			t.Error(c, n, err)
		}
		if d, n, err := Prefix(slices.Concat(whole(full()), b)); !alike(d, full()) || n != len(whole(full())) || err != api.OK {
			t.Error(c, d, n, err)
		}
	}
}

// P15.1 to P15.3: whatever is changed in one part of a cart, its bytes are those of the other cart, or are refused.
func TestChanged(t *testing.T) {
	far := with(con(3, 1, 127, 2, 128, 3, 16384, 4, 300, 3, 70000), item("Nut", mark(1, 127, 128, 127), mark(2, 127, 16383, 1<<35-1)), item("Tea nut", mark(1, 1, 1, 1), mark(3, 70000, api.MaxQty, math.MaxUint64-1)))
	for _, c := range []api.Cart{given(), full(), far} {
		valid, others := 0, changed(c)
		for _, d := range others {
			if hold(t, whole(d)) {
				accepted(t, whole(d), d)
				valid++
			}
		}
		if valid < 5 || len(others)-valid < 5 {
			t.Error(valid, len(others))
		}
	}
}

// tails are bytes to stand behind others: none, numbers, such as do not end, carts, and many.
func tails() [][]byte {
	return [][]byte{nil, {0}, {1}, {128}, {255}, {7, 7}, {0, 0, 0}, {1, 1, 1, 1}, whole(given()), whole(full()), slices.Repeat([]byte{0}, 100), slices.Repeat([]byte{1}, 100), slices.Repeat([]byte{255}, 1000), []byte(strings.Repeat("a", 200))}
}

// P15.2 and P15.3: what Prefix returns for a cart does not depend on what follows, nor its error for what no cart begins with.
func TestPrefix(t *testing.T) {
	for _, b := range some() {
		want, err := Cart(b)
		if err != api.OK {
			t.Fatal(b)
		}
		for _, tail := range tails() {
			both := slices.Concat(b, tail)
			if c, n, err := Prefix(both); !alike(c, want) || n != len(b) || err != api.OK {
				t.Error(b, tail, c, n, err)
			}
			hold(t, both)
		}
		// Beginnings may go on in another way.
		for i := range b {
			for _, tail := range tails() {
				hold(t, slices.Concat(b[:i], tail))
			}
		}
	}
	for _, c := range badCarts() {
		for _, tail := range tails() {
			hold(t, slices.Concat(whole(c), tail))
		}
	}
	// One cart after the other is taken from the front.
	var all []byte
	for _, b := range some() {
		all = append(all, b...)
	}
	for _, b := range some() {
		c, n, err := Prefix(all)
		if !slices.Equal(whole(c), b) || n != len(b) || err != api.OK {
			t.Fatal(b, c, n, err)
		}
		all = all[n:]
	}
	if c, n, err := Prefix(all); len(all) != 0 || !alike(c, api.Cart{}) || n != 0 || err != api.ErrMalformed {
		t.Error(all, c, n, err)
	}
}

// P15.2: none, one and many carts one behind the other, the same ones and different ones, and something in front, between or behind.
func TestCount(t *testing.T) {
	l := some()
	var all []byte
	for i, b := range l {
		if n, err := Count(all); n != i || err != api.OK {
			t.Fatal(i, n, err)
		}
		all = append(all, b...)
	}
	for size := range 70 {
		for _, b := range l[:5] {
			both := slices.Repeat(b, size)
			if n, err := Count(both); n != size || err != api.OK {
				t.Error(b, n, err)
			}
			for _, x := range [][]byte{{0}, {1}, {0, 0}, {255}, {1, 1, 1, 0}, b[:len(b)-1], b[1:]} {
				hold(t, slices.Concat(both, x))
				hold(t, slices.Concat(x, both))
				hold(t, slices.Concat(both, x, both))
			}
		}
	}
	for _, a := range l[:9] {
		for _, b := range l[:9] {
			for _, x := range tails() {
				hold(t, slices.Concat(a, x, b))
				hold(t, slices.Concat(a, b, x))
				hold(t, slices.Concat(x, a, b))
			}
		}
	}
	// A part of a number, a name or a list is missing at the end.
	for _, b := range l[:7] {
		for i := 1; i < len(b); i++ {
			both := slices.Concat(b, b[:i])
			if n, err := Count(both); n != 0 || err != api.ErrMalformed {
				t.Error(both, n, err)
			}
		}
	}
}

// P15.3: random carts are read from their bytes, no beginning of which is a cart, and random bytes are a cart just if their cart has them.
func TestConsequences(t *testing.T) {
	r := rand.New(rand.NewSource(15))
	for range 400 {
		c := random(r)
		b, err := canon.Encode(c)
		if err != api.OK {
			t.Fatal(c)
		}
		accepted(t, b, c)
		for i := range b {
			if c, err := Cart(b[:i]); !alike(c, api.Cart{}) || err != api.ErrMalformed {
				t.Error(b[:i], c, err)
			}
		}
		s, err := canon.Context(c.Context)
		if d, wrong := Context(s); err != api.OK || !alike(with(d), with(c.Context)) || wrong != api.OK {
			t.Error(c, d)
		}
	}
	read := 0
	for range 100000 {
		b := make([]byte, r.Intn(20))
		for i := range b {
			b[i] = byte(r.Intn(1 << r.Intn(9)))
		}
		if r.Intn(2) == 0 {
			b = append([]byte{1, 1, byte(1 + r.Intn(3)), 0, byte(r.Intn(3))}, b...)
		}
		hold(t, b)
		c, n, err := Prefix(b)
		if err != api.OK {
			continue
		}
		read++
		if again, err := canon.Encode(c); !slices.Equal(again, b[:n]) || err != api.OK {
			t.Error(b, c, again, err)
		}
	}
	if read < 1000 {
		t.Error(read)
	}
}

// taken is how much memory is taken in all by a call, also what is given back at once.
func taken(call func()) uint64 {
	var before, after runtime.MemStats
	runtime.ReadMemStats(&before)
	call()
	runtime.ReadMemStats(&after)
	return after.TotalAlloc - before.TotalAlloc
}

// greedy are bytes that begin with great numbers at all places, up to some length, and such as have as many parts as possible before something is wrong.
func greedy(size int) map[string][]byte {
	out := map[string][]byte{}
	fill := func(why string, head []byte, part ...byte) {
		out[why+" of "+strconv.Itoa(size)] = append(head, slices.Repeat(part, size/len(part))...)
	}
	for _, n := range []uint64{uint64(size), 1 << 20, 1 << 31, 1 << 32, 1 << 40, 1 << 62, 1 << 63, math.MaxUint64} {
		why := strconv.FormatUint(n, 10) + " "
		fill(why+"dots", num(n), 1)
		fill(why+"dots of the cloud", append([]byte{0}, num(n)...), 1)
		fill(why+"items", append([]byte{1, 1, 1, 0}, num(n)...), 1)
		fill(why+"items without a name", append([]byte{1, 1, 1, 0}, num(n)...), 0)
		fill(why+"items without marks", append([]byte{1, 1, 1, 0}, num(n)...), 1, 'a', 0)
		fill(why+"items with a mark", append([]byte{1, 1, 1, 0}, num(n)...), 1, 'a', 1, 1, 1, 1, 1)
		fill(why+"bytes of a name", append([]byte{1, 1, 1, 0, 1}, num(n)...), 'a')
		fill(why+"marks", append([]byte{1, 1, 1, 0, 1, 1, 'a'}, num(n)...), 1)
		fill(why+"lists of marks", append([]byte{1, 1, 1, 0}, num(n)...), append([]byte{1, 'a'}, num(n)...)...)
	}
	fill("nothing", nil, 0)
	fill("no ends", nil, 255)
	return out
}

// P15.3: however great the numbers are that bytes begin with, memory is taken for what there is, and not for what they say.
func TestMemory(t *testing.T) {
	for _, size := range []int{0, 1, 20, 300, 5000, 100000} {
		for why, b := range greedy(size) {
			most := uint64(100*len(b) + 2000)
			// Many small carts take more, one after the other.
			if n, err := Count(b); err == api.OK && n > 0 {
				most *= 10
			}
			for i, call := range []func(){func() { Cart(b) }, func() { Prefix(b) }, func() { Context(b) }, func() { Count(b) }} {
				if n := taken(call); n > most {
					t.Error(why, i, n, len(b))
				}
			}
		}
	}
	// What is read has no more room than a multiple of its bytes either.
	for _, b := range some() {
		for i, call := range []func(){func() { Cart(b) }, func() { Prefix(b) }} {
			if n := taken(call); n > uint64(200*len(b)+2000) {
				t.Error(b, i, n)
			}
		}
	}
}

// caught is what a call panics with, nil if it does not.
func caught(call func()) (x any) {
	defer func() { x = recover() }()
	call()
	return nil
}

// wrapped is an error that has this package's own one inside.
type wrapped struct{ inner error }

func (w wrapped) Error() string { return "wrapped" }
func (w wrapped) Unwrap() error { return w.inner }

// P15.3 and the implementation notes: this package's own error becomes ErrMalformed, and each other panic goes on as what it is.
func TestRefusal(t *testing.T) {
	if err := refusal(nil); err != api.OK {
		t.Error(err)
	}
	if err := refusal(malformed{}); err != api.ErrMalformed {
		t.Error(err)
	}
	own := errors.New(malformed{}.Error())
	for _, x := range []any{own, malformed{}.Error(), api.ErrMalformed, api.OK, int(api.ErrMalformed), 0, "", false, struct{}{}, &malformed{}, wrapped{malformed{}}, error(wrapped{nil})} {
		if y := caught(func() { refusal(x) }); y != x {
			t.Error(x, y)
		}
		read := func(*bytes.Reader) int { panic(x) }
		call := func() (n int, err api.Errno) {
			defer func() { err = refusal(recover()) }()
			return readAll([]byte{0, 0, 0}, read), api.OK
		}
		if y := caught(func() { call() }); y != x {
			t.Error(x, y)
		}
	}
	// What reads stops with just this error, and nothing else.
	for _, b := range [][]byte{nil, {0}, {0, 0}, {1, 0, 0, 0}, {0, 0, 1, 0, 0}, {0, 0, 0, 0}, {255}} {
		if x := caught(func() { readAll(b, readCart) }); x != (malformed{}) {
			t.Error(b, x)
		}
	}
	var err error = malformed{}
	if err.Error() == "" {
		t.Error(err)
	}
}

// P15.3 and the implementation notes: no exported function hides a panic of another kind, here of bytes that are far more than there is memory for.
func TestOtherPanics(t *testing.T) {
	b := unsafe.Slice(new(byte), 1<<62)
	for i, call := range []func(){func() { Cart(b) }, func() { Prefix(b) }, func() { Context(b) }, func() { Count(b) }} {
		if x, ok := caught(call).(runtime.Error); !ok {
			t.Error(i, x)
		}
	}
}

// P1: long lists at each place, many carts, and such as are wrong at the end.
func TestLong(t *testing.T) {
	const size = 1 << 16
	var items api.Cart
	items.Context = con(1, 1, size)
	for i := range size {
		items.Items = append(items.Items, item("Item "+strconv.Itoa(100000+i), mark(1, 1+i, 1+i, uint64(1+i))))
	}
	var marks api.Cart
	x := item("Tea")
	for replica := 1; replica <= api.MaxReplica; replica++ {
		marks.Context.Vector = append(marks.Context.Vector, at(replica, 1))
		x.Marks = append(x.Marks, mark(replica, 1, replica, math.MaxUint64))
	}
	marks.Items = []api.Item{x}
	var cloud api.Cart
	for i := range 1 << 17 {
		cloud.Context.Cloud = append(cloud.Context.Cloud, at(1, 2+2*i))
	}
	for i, c := range []api.Cart{items, marks, cloud} {
		b := whole(c)
		if d, err := Cart(b); !alike(d, c) || err != api.OK {
			t.Error(i, err)
		}
		if d, n, err := Prefix(append(b, 9)); !alike(d, c) || n != len(b) || err != api.OK {
			t.Error(i, n, err)
		}
		if n, err := Count(slices.Repeat(b, 3)); n != 3 || err != api.OK {
			t.Error(i, n, err)
		}
		for _, b := range [][]byte{b[:len(b)-1], append(b, 0), append(b, b[:len(b)-1]...)} {
			if d, err := Cart(b); !alike(d, api.Cart{}) || err != api.ErrMalformed {
				t.Error(i, err)
			}
		}
		if s, err := Context(seen(c.Context)); !alike(with(s), with(c.Context)) || err != api.OK {
			t.Error(i, err)
		}
	}
	items.Items[size-1].Marks[0].Time = 0
	marks.Items[0].Marks[api.MaxReplica-1].Qty = 0
	cloud.Context.Cloud[len(cloud.Context.Cloud)-1].Counter = 4
	for _, c := range []api.Cart{items, marks, cloud} {
		if d, err := Cart(whole(c)); !alike(d, api.Cart{}) || err != api.ErrMalformed {
			t.Error(err)
		}
	}
	for _, x := range []byte{0, 1, 127, 128, 255} {
		b := slices.Repeat([]byte{x}, 1<<20)
		if d, err := Cart(b); !alike(d, api.Cart{}) || err != api.ErrMalformed {
			t.Error(x, err)
		}
		if d, err := Context(b); !alike(with(d), api.Cart{}) || err != api.ErrMalformed {
			t.Error(x, err)
		}
	}
	if n, err := Count(make([]byte, 3*size)); n != size || err != api.OK {
		t.Error(n, err)
	}
	if n, err := Count(make([]byte, 3*size+1)); n != 0 || err != api.ErrMalformed {
		t.Error(n, err)
	}
}

// span is the memory of a slice, up to its capacity, or of a string.
type span struct{ from, to uintptr }

func sliceSpan[T any](l []T) span {
	var one T
	from := uintptr(unsafe.Pointer(unsafe.SliceData(l)))
	return span{from, from + uintptr(cap(l))*unsafe.Sizeof(one)}
}
func stringSpan(s string) span {
	from := uintptr(unsafe.Pointer(unsafe.StringData(s)))
	return span{from, from + uintptr(len(s))}
}

// overlap is whether two spans share memory, spans are those of a cart.
func overlap(a, b span) bool { return max(a.from, b.from) < min(a.to, b.to) }
func spans(c api.Cart) []span {
	out := []span{sliceSpan(c.Context.Vector), sliceSpan(c.Context.Cloud), sliceSpan(c.Items)}
	for _, x := range c.Items {
		out = append(out, stringSpan(x.Name), sliceSpan(x.Marks))
	}
	return out
}

// given bytes for the tests of memory, with others behind their end: a cart, a context, several carts, and none of these.
func inputs() [][]byte {
	var out [][]byte
	for _, b := range [][]byte{nil, {0, 0, 0}, whole(full()), whole(given()), seen(full().Context), slices.Concat(whole(full()), whole(given())), append(whole(full()), 1), whole(full())[:30], {7, 7}} {
		out = append(out, append(append(make([]byte, 0, 2*len(b)+8), b...), 1, 2, 3)[:len(b)])
	}
	return out
}

// results are the carts that calls with some bytes return, each call made twice; a context stands in a cart without items.
func results(b []byte) []api.Cart {
	var out []api.Cart
	for range 2 {
		first, _ := Cart(b)
		second, _, _ := Prefix(b)
		third, _ := Context(b)
		Count(b)
		out = append(out, first, second, with(third))
	}
	return out
}

// spoil changes all that a cart has, also behind the ends of its lists.
func spoil(c api.Cart) {
	bad := mark(-9, -9, -9, 9)
	for _, l := range [][]api.Dot{c.Context.Vector, c.Context.Cloud} {
		for i := range l[:cap(l)] {
			l[:cap(l)][i] = bad.Dot
		}
	}
	for _, x := range c.Items {
		for i := range x.Marks[:cap(x.Marks)] {
			x.Marks[:cap(x.Marks)][i] = bad
		}
	}
	for i := range c.Items[:cap(c.Items)] {
		c.Items[:cap(c.Items)][i] = item("spoilt", bad)
	}
}

// P15.3 and the rules: no call changes the bytes, not even behind their end, and equal calls have equal results.
func TestArgumentsStay(t *testing.T) {
	for _, b := range inputs() {
		before := slices.Clone(b[:cap(b)])
		l := results(b)
		if !slices.Equal(b[:cap(b)], before) {
			t.Error(before, b[:cap(b)])
		}
		if half := len(l) / 2; !slices.EqualFunc(l[:half], l[half:], alike) {
			t.Error(b, l)
		}
	}
}

// The rules: whatever is changed in a result, the bytes and the other results stay what they were; whatever is changed in the bytes, the results do.
func TestNewMemory(t *testing.T) {
	for _, b := range inputs() {
		before := slices.Clone(b[:cap(b)])
		l := results(b)
		var kept []api.Cart
		for _, c := range l {
			kept = append(kept, deep(c))
		}
		for n, c := range l {
			spoil(c)
			if !slices.EqualFunc(l[n+1:], kept[n+1:], alike) || !slices.Equal(b[:cap(b)], before) {
				t.Fatal(before, n)
			}
		}
		l = results(b)
		for i := range b[:cap(b)] {
			b[:cap(b)][i] = 77
		}
		if !slices.EqualFunc(l, kept, alike) {
			t.Error(before, l)
		}
	}
}

// The rules: neither the bytes, nor two results, nor two parts of one result share memory, not even behind their ends.
func TestNothingShared(t *testing.T) {
	for _, b := range inputs() {
		l := []span{sliceSpan(b)}
		for _, c := range results(b) {
			l = append(l, spans(c)...)
		}
		for n, x := range l {
			if slices.ContainsFunc(l[n+1:], func(y span) bool { return overlap(x, y) }) {
				t.Fatal(b, n)
			}
		}
	}
}
