package join

import (
	"maps"
	"math"
	"math/rand"
	"regexp"
	"slices"
	"strconv"
	"strings"
	"testing"
	"unsafe"

	"pannier/api"
)

// mark returns the mark of a dot with a quantity and a time, and item an item.
func mark(replica, counter, q int, time uint64) api.Mark {
	return api.Mark{Dot: api.Dot{Replica: replica, Counter: counter}, Qty: q, Time: time}
}
func item(name string, marks ...api.Mark) api.Item { return api.Item{Name: name, Marks: marks} }

// dots returns the dots of pairs of a replica and a counter.
func dots(l ...int) []api.Dot {
	var out []api.Dot
	for i := 0; i+1 < len(l); i += 2 {
		out = append(out, api.Dot{Replica: l[i], Counter: l[i+1]})
	}
	return out
}

// con returns the context whose vector has the first n of some dots, and whose cloud the others, and with a cart.
func con(n int, l ...int) api.Context {
	d := dots(l...)
	return api.Context{Vector: d[:n], Cloud: d[n:]}
}
func with(seen api.Context, l ...api.Item) api.Cart { return api.Cart{Context: seen, Items: l} }

// lists are all lists of at most some things out of a few.
func lists[T any](most int, few ...T) [][]T {
	out := [][]T{nil}
	for from, n := 0, 0; n < most; n++ {
		to := len(out)
		for _, l := range out[from:to] {
			for _, x := range few {
				out = append(out, append(slices.Clone(l), x))
			}
		}
		from = to
	}
	return out
}

// orders are all lists of the things of a list, each of them in another order.
func orders[T any](l []T) [][]T {
	if len(l) == 0 {
		return [][]T{nil}
	}
	var out [][]T
	for i := range l {
		rest := slices.Delete(slices.Clone(l), i, i+1)
		for _, o := range orders(rest) {
			out = append(out, append(o, l[i]))
		}
	}
	return out
}

// alike is whether two carts are equal in all parts, element by element, by the definition.
func alike(a, b api.Cart) bool {
	return slices.Equal(a.Context.Vector, b.Context.Vector) && slices.Equal(a.Context.Cloud, b.Context.Cloud) &&
		slices.EqualFunc(a.Items, b.Items, func(x, y api.Item) bool { return x.Name == y.Name && slices.Equal(x.Marks, y.Marks) })
}

// deep returns a cart that shares no memory with another one, so that it stays what it was.
func deep(c api.Cart) api.Cart {
	out := with(api.Context{Vector: append(api.Vector{}, c.Context.Vector...), Cloud: append([]api.Dot{}, c.Context.Cloud...)})
	for _, x := range c.Items {
		out.Items = append(out.Items, item(strings.Clone(x.Name), append([]api.Mark{}, x.Marks...)...))
	}
	return out
}

// isDot and isMark are whether a dot and a mark are valid, less whether a dot comes before another one, by the definitions.
func isDot(d api.Dot) bool {
	return d.Replica > 0 && d.Replica < 65536 && d.Counter > 0 && d.Counter < 1<<32
}
func isMark(m api.Mark) bool { return isDot(m.Dot) && m.Qty > 0 && m.Qty < 1<<31 && m.Time > 0 }
func less(a, b api.Dot) bool {
	return a.Counter < b.Counter || a.Counter == b.Counter && a.Replica < b.Replica
}
func byDots(a, b api.Dot) int {
	switch {
	case less(a, b):
		return -1
	case less(b, a):
		return 1
	default:
		return 0
	}
}

// isContext is whether a context is valid and compact, by the definitions.
func isContext(c api.Context) bool {
	for i, d := range c.Vector {
		if !isDot(d) || i > 0 && c.Vector[i-1].Replica >= d.Replica {
			return false
		}
	}
	for i, d := range c.Cloud {
		if !isDot(d) || i > 0 && !less(c.Cloud[i-1], d) || d.Counter <= last(c, d.Replica)+1 {
			return false
		}
	}
	return true
}

// last is the counter of a replica in the vector of a context, and in whether a valid dot is in the context.
func last(c api.Context, replica int) int {
	for _, d := range c.Vector {
		if d.Replica == replica {
			return d.Counter
		}
	}
	return 0
}
func in(c api.Context, d api.Dot) bool {
	return d.Counter <= last(c, d.Replica) || slices.Contains(c.Cloud, d)
}

// words are words with single spaces between them.
var words = regexp.MustCompile(`^[!-~]+( [!-~]+)*$`)

// isCart is whether a cart is valid, by the definitions.
func isCart(c api.Cart) bool {
	seen := map[api.Dot]bool{}
	for i, x := range c.Items {
		if len(x.Name) > 64 || !words.MatchString(x.Name) || len(x.Marks) == 0 || i > 0 && c.Items[i-1].Name >= x.Name {
			return false
		}
		for k, m := range x.Marks {
			if !isMark(m) || k > 0 && !less(x.Marks[k-1].Dot, m.Dot) || seen[m.Dot] || !in(c.Context, m.Dot) {
				return false
			}
			seen[m.Dot] = true
		}
	}
	return isContext(c.Context)
}

// unionOf is the compact context with the dots of two valid ones, made step by step.
func unionOf(a, b api.Context) api.Context {
	seen := map[int]int{}
	for _, v := range slices.Concat(a.Vector, b.Vector) {
		seen[v.Replica] = max(seen[v.Replica], v.Counter)
	}
	cloud := slices.Concat(a.Cloud, b.Cloud)
	goes := func(d api.Dot) bool { return d.Counter <= seen[d.Replica]+1 }
	for at := slices.IndexFunc(cloud, goes); at >= 0; at = slices.IndexFunc(cloud, goes) {
		d := cloud[at]
		seen[d.Replica] = max(seen[d.Replica], d.Counter)
		cloud = slices.Delete(cloud, at, at+1)
	}
	var out api.Context
	for _, replica := range slices.Sorted(maps.Keys(seen)) {
		out.Vector = append(out.Vector, api.Dot{Replica: replica, Counter: seen[replica]})
	}
	slices.SortFunc(cloud, byDots)
	out.Cloud = slices.Compact(cloud)
	return out
}

// marksOf are the marks that a cart has in the item with a name, and at where there is one with a dot (-1: nowhere).
func marksOf(c api.Cart, name string) []api.Mark {
	for _, x := range c.Items {
		if x.Name == name {
			return x.Marks
		}
	}
	return nil
}
func at(l []api.Mark, d api.Dot) int {
	return slices.IndexFunc(l, func(m api.Mark) bool { return m.Dot == d })
}

// newer is the newer one of two marks with the same dot: only their times and quantities can be different.
func newer(m, o api.Mark) api.Mark {
	if o.Time > m.Time || o.Time == m.Time && o.Qty > m.Qty {
		return o
	}
	return m
}

// joinOf is the join of two valid carts, by the definition: name by name, first the marks with the same dot, then the others of each cart.
func joinOf(a, b api.Cart) api.Cart {
	out := with(unionOf(a.Context, b.Context))
	called := map[string]bool{}
	for _, x := range slices.Concat(a.Items, b.Items) {
		called[x.Name] = true
	}
	for _, name := range slices.Sorted(maps.Keys(called)) {
		x := item(name)
		ofA, ofB := marksOf(a, name), marksOf(b, name)
		for _, m := range ofA {
			if i := at(ofB, m.Dot); i >= 0 {
				x.Marks = append(x.Marks, newer(m, ofB[i]))
			} else if !in(b.Context, m.Dot) {
				x.Marks = append(x.Marks, m)
			}
		}
		for _, m := range ofB {
			if at(ofA, m.Dot) < 0 && !in(a.Context, m.Dot) {
				x.Marks = append(x.Marks, m)
			}
		}
		slices.SortFunc(x.Marks, func(m, o api.Mark) int { return byDots(m.Dot, o.Dot) })
		if len(x.Marks) > 0 {
			out.Items = append(out.Items, x)
		}
	}
	return out
}

// fitOf is whether two valid carts fit, by the definition: pair by pair of their marks.
func fitOf(a, b api.Cart) bool {
	for _, x := range a.Items {
		for _, y := range b.Items {
			for _, m := range x.Marks {
				for _, o := range y.Marks {
					if m.Dot == o.Dot && (x.Name != y.Name || m.Qty != o.Qty || m.Time != o.Time) {
						return false
					}
				}
			}
		}
	}
	return true
}

// allOf is what All returns, by the definition: the first carts come first.
func allOf(l []api.Cart) (api.Cart, api.Errno) {
	var out api.Cart
	for _, c := range l {
		if !isCart(c) {
			return api.Cart{}, api.ErrArg
		}
		out = joinOf(out, c)
	}
	return out, api.OK
}

// joined is the join of two carts that are valid.
func joined(t *testing.T, a, b api.Cart) api.Cart {
	t.Helper()
	c, err := Join(a, b)
	if err != api.OK {
		t.Fatal(a, b, err)
	}
	return c
}

// isWithin and isFit are what Within and Fits return for two carts that are valid.
func isWithin(t *testing.T, a, b api.Cart) bool {
	t.Helper()
	is, err := Within(a, b)
	if err != api.OK {
		t.Fatal(a, b, err)
	}
	return is
}
func isFit(t *testing.T, a, b api.Cart) bool {
	t.Helper()
	is, err := Fits(a, b)
	if err != api.OK {
		t.Fatal(a, b, err)
	}
	return is
}

// hold holds Join, Within and Fits of two valid carts, in both orders, against the definitions, and the join against what follows for two carts.
func hold(t *testing.T, a, b api.Cart) {
	t.Helper()
	want := joinOf(a, b)
	c := joined(t, a, b)
	if !alike(c, want) || !alike(joined(t, b, a), want) || !isCart(c) {
		t.Fatal(a, b, c)
	}
	inB, inA := isWithin(t, a, b), isWithin(t, b, a)
	if inB != alike(want, b) || inA != alike(want, a) || inA && inB && !alike(a, b) {
		t.Fatal(a, b, inB, inA)
	}
	if !isWithin(t, a, c) || !isWithin(t, b, c) {
		t.Fatal("not within", a, b, c)
	}
	if is := isFit(t, a, b); is != fitOf(a, b) || is != isFit(t, b, a) {
		t.Fatal(a, b, is)
	}
}

// add is a valid cart that has seen a dot, and put one that has a mark with a dot that it had not, in the item with a name.
func add(c api.Cart, d api.Dot) api.Cart {
	c.Context = unionOf(c.Context, api.Context{Cloud: []api.Dot{d}})
	return c
}
func put(c api.Cart, name string, m api.Mark) api.Cart {
	out := deep(add(c, m.Dot))
	i := slices.IndexFunc(out.Items, func(x api.Item) bool { return x.Name >= name })
	switch {
	case i < 0:
		out.Items = append(out.Items, item(name, m))
	case out.Items[i].Name != name:
		out.Items = slices.Insert(out.Items, i, item(name, m))
	default:
		out.Items[i].Marks = append(out.Items[i].Marks, m)
		slices.SortFunc(out.Items[i].Marks, func(m, o api.Mark) int { return byDots(m.Dot, o.Dot) })
	}
	return out
}

// grid are all carts that know something of some dots: of each one nothing, that it was, or a mark with one of a few quantities and times in the item with one of a few names.
func grid(names []string, says []api.Mark, few ...api.Dot) []api.Cart {
	out := []api.Cart{{}}
	for _, d := range few {
		var next []api.Cart
		for _, c := range out {
			next = append(next, c, add(c, d))
			for _, name := range names {
				for _, m := range says {
					m.Dot = d
					next = append(next, put(c, name, m))
				}
			}
		}
		out = next
	}
	return out
}

// Some carts: those of the chapter's examples, and one with several items, a cloud, and marks of the same replica.
var (
	one, two = mark(1, 1, 5, 3), mark(2, 1, 7, 4)
	nut      = item("Nut", mark(2, 1, 7, 4))
	tea      = item("Tea", mark(1, 1, 5, 3), mark(1, 2, 2, 9))
	oil      = item("Oil", mark(3, 5, 1, 1))
)

func teaX() api.Cart { return with(con(1, 1, 1), item("Tea", one)) }
func teaY() api.Cart { return with(con(1, 2, 1), item("Tea", two)) }
func full() api.Cart { return deep(with(con(2, 1, 2, 2, 4, 3, 5, 9, 9), nut, oil, tea)) }

// badCarts are carts that are not valid, each of them for one reason alone, near to a cart that is.
func badCarts() []api.Cart {
	seen := full().Context
	out := []api.Cart{
		// A dot that was not seen: of a mark in front, in the middle and behind.
		with(con(0), item("Tea", one)), with(con(1, 1, 2, 3, 5), nut, oil, tea), with(con(2, 1, 2, 2, 4), nut, oil, tea), with(con(2, 1, 1, 2, 4, 3, 5), nut, oil, tea), with(con(1, 2, 4, 1, 2, 3, 5), nut, oil, tea),
		// A context that is not compact, with items and without.
		with(con(0, 1, 1)), with(con(1, 1, 1, 1, 2)), with(con(1, 1, 2, 1, 2)), with(con(2, 1, 2, 2, 4, 1, 1, 3, 5), nut, oil, tea), with(con(2, 1, 2, 2, 4, 2, 5, 3, 5), nut, oil, tea), with(con(2, 1, 2, 2, 4, 9, 1, 3, 5), nut, oil, tea),
		// A context that is not valid.
		with(con(2, 2, 1, 1, 1)), with(con(2, 1, 1, 1, 1)), with(con(2, 1, 1, 1, 2)), with(con(0, 1, 5, 1, 3)), with(con(0, 1, 3, 1, 3)), with(con(1, 0, 1)), with(con(1, 1, 0)), with(con(1, 65536, 1)), with(con(1, 1, 4294967296)), with(con(0, 0, 2)), with(con(0, -2, 2)), with(con(0, 65536, 2)), with(con(0, 1, 4294967296)), with(con(2, 2, 4, 1, 2, 3, 5, 9, 9), nut, oil, tea), with(con(2, 1, 2, 2, 4, 9, 9, 3, 5), nut, oil, tea),
		// Items that are not in order, that are there twice, or that share a dot.
		with(seen, oil, nut, tea), with(seen, nut, tea, oil), with(seen, nut, nut), with(seen, item("Tea", tea.Marks[0]), item("Tea", tea.Marks[1])), with(seen, nut, oil, item("Tea", one, two)), with(seen, item("Ale", one), nut, oil, tea),
		// Marks that are not in order, or twice.
		with(seen, nut, oil, item("Tea", tea.Marks[1], tea.Marks[0])), with(seen, nut, oil, item("Tea", one, one)), with(seen, nut, oil, item("Tea", one, mark(1, 1, 6, 3))),
		// Items and marks that are not valid by themselves.
		with(seen, item("Nut"), oil, tea), with(seen, nut, oil, item("Tea")), with(seen, item("", two), oil, tea), with(seen, nut, oil, item("Tea ", one)), with(seen, nut, oil, item("Te\na", one)), with(seen, nut, oil, item("T\u00e9", one)), with(seen, nut, oil, item(strings.Repeat("t", 65), one)),
		with(seen, api.Item{}), with(seen, item("Tea", api.Mark{})), with(seen, item("Tea", mark(1, 1, 0, 3))), with(seen, item("Tea", mark(1, 1, -1, 3))), with(seen, item("Tea", mark(1, 1, 2147483648, 3))), with(seen, item("Tea", mark(1, 1, 5, 0))), with(seen, item("Tea", one, mark(0, 2, 5, 3))), with(seen, item("Tea", mark(1, 0, 5, 3))), with(seen, item("Tea", mark(math.MinInt, math.MaxInt, 5, 3))),
	}
	return out
}

// P11.1 to P11.3: the examples of the chapter.
func TestExamples(t *testing.T) {
	x, y := teaX(), teaY()
	z, u := with(con(2, 1, 1, 2, 1)), with(con(1, 1, 1), item("Tea", mark(1, 1, 6, 3)))
	xy := with(con(2, 1, 1, 2, 1), item("Tea", one, two))
	for i, c := range []struct{ a, b, want api.Cart }{
		{x, y, xy}, {x, z, z}, {xy, z, z}, {x, api.Cart{}, x}, {x, u, u}, {y, with(con(1, 1, 1)), with(con(2, 1, 1, 2, 1), item("Tea", two))},
	} {
		if v, err := Join(c.a, c.b); !alike(v, c.want) || err != api.OK {
			t.Error(i, v, err)
		}
	}
	if v, err := All([]api.Cart{y, x, z, y}); !alike(v, z) || err != api.OK {
		t.Error(v, err)
	}
	if !isWithin(t, x, xy) || isWithin(t, x, y) || !isWithin(t, x, z) || !isFit(t, x, y) || isFit(t, x, u) || !isFit(t, x, z) {
		t.Error("Within, Fits")
	}
	if v, err := Join(x, with(con(0), item("Tea", one))); !alike(v, api.Cart{}) || err != api.ErrArg {
		t.Error(v, err)
	}
}

// P11.1 and P11.3: joins that are known, in both orders, whether each cart is within the other one, and whether both fit.
func TestKnown(t *testing.T) {
	x, y := teaX(), teaY()
	for i, c := range []struct {
		a, b, want     api.Cart
		inB, inA, fits bool
	}{
		// No cart at all, a cart without items, a cart with itself, and lists that are empty and nil.
		{api.Cart{}, api.Cart{}, api.Cart{}, true, true, true}, {full(), api.Cart{}, full(), false, true, true}, {full(), full(), full(), true, true, true}, {with(con(1, 7, 7)), full(), with(con(3, 1, 2, 2, 4, 7, 7, 3, 5, 9, 9), nut, oil, tea), false, false, true},
		{with(con(0), []api.Item{}...), api.Cart{Context: api.Context{Vector: api.Vector{}, Cloud: []api.Dot{}}}, api.Cart{}, true, true, true},
		// The same dot in the items of one name: the one newer by its time, by its quantity alone, by its time although its quantity is smaller; both equal.
		{x, with(con(1, 1, 1), item("Tea", mark(1, 1, 5, 4))), with(con(1, 1, 1), item("Tea", mark(1, 1, 5, 4))), true, false, false}, {x, with(con(1, 1, 1), item("Tea", mark(1, 1, 6, 3))), with(con(1, 1, 1), item("Tea", mark(1, 1, 6, 3))), true, false, false}, {x, with(con(1, 1, 1), item("Tea", mark(1, 1, 1, 9))), with(con(1, 1, 1), item("Tea", mark(1, 1, 1, 9))), true, false, false},
		{x, with(con(1, 1, 2), item("Tea", one)), with(con(1, 1, 2), item("Tea", one)), true, false, true}, {x, with(con(1, 1, 2), item("Tea", mark(1, 1, 4, 3))), with(con(1, 1, 2), item("Tea", one)), false, false, false},
		// Two marks of each, each cart with a newer one, and one of both that is equal.
		{with(con(2, 1, 1, 2, 1), item("Tea", one, mark(2, 1, 8, 4))), with(con(2, 1, 1, 2, 1), item("Tea", mark(1, 1, 5, 9), two)), with(con(2, 1, 1, 2, 1), item("Tea", mark(1, 1, 5, 9), mark(2, 1, 8, 4))), false, false, false}, {with(con(2, 1, 1, 2, 1), item("Tea", one, two)), with(con(2, 1, 1, 2, 1), item("Tea", one, mark(2, 1, 7, 5))), with(con(2, 1, 1, 2, 1), item("Tea", one, mark(2, 1, 7, 5))), true, false, false},
		// The same dot in items of different names, with equal marks, with others, and beside marks that stay: it goes from both.
		{x, with(con(1, 1, 1), item("Nut", one)), with(con(1, 1, 1)), false, false, false}, {x, with(con(1, 1, 1), item("Te", mark(1, 1, 9, 9))), with(con(1, 1, 1)), false, false, false}, {with(con(1, 1, 2), tea), with(con(2, 1, 1, 2, 1), item("Nut", one, two)), with(con(2, 1, 2, 2, 1), item("Nut", two), item("Tea", mark(1, 2, 2, 9))), false, false, false}, {with(con(2, 1, 1, 2, 1), item("a", one), item("b", two)), with(con(2, 1, 1, 2, 1), item("a", two), item("b", one)), with(con(2, 1, 1, 2, 1)), false, false, false},
		{with(con(1, 1, 2), item("a", mark(1, 1, 1, 1)), item("b", mark(1, 2, 1, 1))), with(con(1, 1, 2), item("b", mark(1, 1, 1, 1), mark(1, 2, 1, 1))), with(con(1, 1, 2), item("b", mark(1, 2, 1, 1))), false, false, false},
		// A dot that was seen and is not in the item any more: in the vector, in the cloud; as the only mark, and beside others.
		{x, with(con(1, 1, 1)), with(con(1, 1, 1)), true, false, true}, {x, with(con(1, 1, 9)), with(con(1, 1, 9)), true, false, true}, {with(con(0, 1, 2), item("Tea", mark(1, 2, 5, 3))), with(con(0, 1, 2)), with(con(0, 1, 2)), true, false, true}, {with(con(0, 1, 2), item("Tea", mark(1, 2, 5, 3))), with(con(0, 1, 3)), with(con(0, 1, 2, 1, 3), item("Tea", mark(1, 2, 5, 3))), false, false, true}, {full(), with(con(0, 3, 5)), with(full().Context, nut, tea), false, false, true}, {full(), with(con(1, 1, 1)), with(full().Context, nut, oil, item("Tea", tea.Marks[1])), false, false, true},
		{full(), with(full().Context), with(full().Context), true, false, true}, {full(), with(con(1, 1, 2), item("Tea", tea.Marks[1])), with(full().Context, nut, oil, item("Tea", tea.Marks[1])), false, false, true},
		// A mark that was made at the same time as the item was removed, or set: it stays.
		{y, with(con(1, 1, 1)), with(con(2, 1, 1, 2, 1), item("Tea", two)), false, false, true}, {with(con(1, 1, 2), item("Tea", mark(1, 2, 9, 9))), with(con(2, 1, 1, 2, 1), item("Tea", one, two)), with(con(2, 1, 2, 2, 1), item("Tea", two, mark(1, 2, 9, 9))), false, false, true},
		// Names that one cart alone has, and names that are beginnings of others.
		{with(con(1, 1, 1), item("b", one)), with(con(1, 2, 1), item("a", two)), with(con(2, 1, 1, 2, 1), item("a", two), item("b", one)), false, false, true}, {with(con(1, 1, 2), item("a", one), item("a b", mark(1, 2, 1, 1))), with(con(1, 2, 2), item("A", two), item("ab", mark(2, 2, 1, 1))), with(con(2, 1, 2, 2, 2), item("A", two), item("a", one), item("a b", mark(1, 2, 1, 1)), item("ab", mark(2, 2, 1, 1))), false, false, true},
		{with(con(1, 1, 2), item("a", mark(1, 2, 1, 1)), item("c", one)), with(con(1, 2, 2), item("b", two), item("c", mark(2, 2, 1, 1))), with(con(2, 1, 2, 2, 2), item("a", mark(1, 2, 1, 1)), item("b", two), item("c", one, mark(2, 2, 1, 1))), false, false, true},
		// Marks of several replicas, whose dots alternate.
		{with(con(0, 1, 2, 1, 4, 3, 4), item("Tea", mark(1, 2, 1, 1), mark(1, 4, 1, 1), mark(3, 4, 1, 1))), with(con(2, 2, 1, 4, 1, 2, 4), item("Tea", two, mark(4, 1, 1, 1), mark(2, 4, 1, 1))), with(con(2, 2, 1, 4, 1, 1, 2, 1, 4, 2, 4, 3, 4), item("Tea", two, mark(4, 1, 1, 1), mark(1, 2, 1, 1), mark(1, 4, 1, 1), mark(2, 4, 1, 1), mark(3, 4, 1, 1))), false, false, true},
		// Contexts whose gaps the other one closes: one of them, all of them, those of a mark.
		{with(con(1, 1, 2, 1, 4)), with(con(0, 1, 3)), with(con(1, 1, 4)), false, false, true}, {with(con(0, 1, 2, 1, 5)), with(con(1, 1, 1, 2, 2, 1, 3)), with(con(1, 1, 3, 2, 2, 1, 5)), false, false, true}, {with(con(0, 1, 2), item("Tea", mark(1, 2, 2, 9))), x, with(con(1, 1, 2), tea), false, false, true}, {with(con(1, 1, 5)), with(con(0, 1, 3, 1, 5)), with(con(1, 1, 5)), false, true, true},
		// A dot behind the vector, of a mark that both have.
		{full(), with(con(0, 3, 5), item("Oil", mark(3, 5, 2, 1))), with(full().Context, nut, item("Oil", mark(3, 5, 2, 1)), tea), false, false, false}, {full(), with(con(0, 3, 5), oil), full(), false, true, true},
		// The limits.
		{with(con(1, 65535, 4294967295), item(strings.Repeat("t", 64), mark(65535, 4294967295, 2147483647, math.MaxUint64))), with(con(0, 65535, 4294967295), item(strings.Repeat("t", 64), mark(65535, 4294967295, 2147483647, math.MaxUint64-1))), with(con(1, 65535, 4294967295), item(strings.Repeat("t", 64), mark(65535, 4294967295, 2147483647, math.MaxUint64))), false, true, false},
	} {
		if v, err := Join(c.a, c.b); !alike(v, c.want) || err != api.OK {
			t.Error(i, v, err)
		}
		if v, err := Join(c.b, c.a); !alike(v, c.want) || err != api.OK {
			t.Error(i, "the other order", v, err)
		}
		if isWithin(t, c.a, c.b) != c.inB || isWithin(t, c.b, c.a) != c.inA || isFit(t, c.a, c.b) != c.fits || isFit(t, c.b, c.a) != c.fits {
			t.Error(i, "Within, Fits")
		}
		hold(t, c.a, c.b)
	}
}

// P11.1 and P11.3: two marks with the same dot, of all pairs of times and quantities at the limits and around the middle, in items of one name and of two.
func TestSameDot(t *testing.T) {
	var marks []api.Mark
	for _, time := range []uint64{1, 2, 1<<63 - 1, 1 << 63, math.MaxUint64 - 1, math.MaxUint64} {
		for _, q := range []int{1, 2, 1 << 30, math.MaxInt32 - 1, math.MaxInt32} {
			marks = append(marks, mark(7, 3, q, time))
		}
	}
	for i, m := range marks {
		for k, o := range marks {
			a, b := with(con(1, 7, 3), item("Tea", m)), with(con(0, 7, 3), item("Tea", o))
			// The marks are written down from the oldest one to the newest one.
			want := with(con(1, 7, 3), item("Tea", marks[max(i, k)]))
			if c := joined(t, a, b); !alike(c, want) || isFit(t, a, b) != (i == k) || isWithin(t, b, a) != (k <= i) || isWithin(t, a, b) {
				t.Fatal(a, b, c)
			}
			hold(t, a, b)
			b.Items = []api.Item{item("Nut", o)}
			if c := joined(t, a, b); !alike(c, with(con(1, 7, 3))) || isFit(t, a, b) {
				t.Fatal(a, b, c)
			}
			hold(t, a, b)
		}
	}
}

// P11.1, P11.3 and P11.4: all pairs of carts that know something of three dots, one of which lies behind a gap without another one.
func TestPairs(t *testing.T) {
	all := grid([]string{"a", "b"}, []api.Mark{{Qty: 1, Time: 2}, {Qty: 2, Time: 1}}, dots(1, 1, 2, 1, 1, 2)...)
	for _, a := range all {
		if c := joined(t, a, a); !alike(c, a) || !isWithin(t, a, a) || !isFit(t, a, a) {
			t.Fatal(a, c)
		}
		for _, b := range all {
			hold(t, a, b)
		}
	}
	// Three names and more marks, of one dot.
	all = grid([]string{"a", "a b", "ab"}, []api.Mark{{Qty: 1, Time: 1}, {Qty: 2, Time: 1}, {Qty: 1, Time: 2}, {Qty: 2, Time: 2}}, dots(1, 2)...)
	for _, a := range all {
		for _, b := range all {
			hold(t, a, b)
		}
	}
}

// P11.1: all pairs of contexts with a few dots, of carts without items, and of carts that have a mark with each dot that was seen.
func TestContexts(t *testing.T) {
	few := dots(1, 1, 2, 1, 1, 2, 2, 2, 1, 3)
	bare := grid(nil, nil, few...)
	marked := []api.Cart{{}}
	for _, d := range few {
		for _, c := range slices.Clone(marked) {
			marked = append(marked, put(c, "Tea", api.Mark{Dot: d, Qty: 1, Time: 1}))
		}
	}
	for _, a := range bare {
		for _, b := range bare {
			hold(t, a, b)
		}
		for _, b := range marked {
			hold(t, a, b)
		}
	}
	for _, a := range marked {
		for _, b := range marked {
			hold(t, a, b)
		}
	}
}

// P11.4: how three carts are grouped does not matter: all of those that know something of two dots, and of one dot with more names and marks; whether they fit or not.
func TestTriples(t *testing.T) {
	says := []api.Mark{{Qty: 1, Time: 2}, {Qty: 2, Time: 1}}
	more := append(says, api.Mark{Qty: 1, Time: 1}, api.Mark{Qty: 2, Time: 2})
	for _, all := range [][]api.Cart{grid([]string{"a", "b"}, says, dots(1, 1, 1, 2)...), grid([]string{"a", "b", "c"}, more, dots(2, 2)...)} {
		for _, a := range all {
			for _, b := range all {
				ab := joined(t, a, b)
				for _, c := range all {
					want := joinOf(joinOf(a, b), c)
					first, second := joined(t, ab, c), joined(t, a, joined(t, b, c))
					every, err := All([]api.Cart{a, b, c})
					if !alike(first, want) || !alike(second, want) || !alike(every, want) || err != api.OK {
						t.Fatal(a, b, c, first, second, every, err)
					}
				}
			}
		}
	}
}

// P11.2 and P11.4: all short lists of a few carts, some of which do not fit, and one of which is not valid.
func TestAll(t *testing.T) {
	few := []api.Cart{{}, teaX(), teaY(), with(con(2, 1, 1, 2, 1)), with(con(1, 1, 1), item("Tea", mark(1, 1, 6, 3))), with(con(1, 1, 1), item("Nut", one)), full(), with(con(0), item("Tea", one))}
	for _, l := range lists(4, few...) {
		want, wrong := allOf(l)
		if c, err := All(l); !alike(c, want) || err != wrong {
			t.Fatal(l, c, err)
		}
	}
	if c, err := All(nil); !alike(c, api.Cart{}) || err != api.OK {
		t.Error(c, err)
	}
	if c, err := All([]api.Cart{}); !alike(c, api.Cart{}) || err != api.OK {
		t.Error(c, err)
	}
	if c, err := All([]api.Cart{full()}); !alike(c, full()) || err != api.OK {
		t.Error(c, err)
	}
}

// P11.4: the order, and how often each cart is there, do not matter for All.
func TestAllOrders(t *testing.T) {
	l := []api.Cart{full(), teaX(), teaY(), with(con(0, 1, 2, 4, 7)), with(con(1, 4, 6), item("Nut", mark(4, 6, 1, 1)), item("Tea", mark(4, 5, 8, 9))), with(con(2, 2, 1, 4, 5), item("Oil", two), item("Tea", mark(4, 5, 9, 9)))}
	// 2.1 goes, because it is that of marks of three items; 1.2 goes, because another cart has seen it; 1.1 stays, because just carts with its mark have seen it.
	want := with(con(3, 1, 2, 2, 4, 4, 7, 3, 5, 9, 9), item("Nut", mark(4, 6, 1, 1)), oil, item("Tea", one, mark(4, 5, 9, 9)))
	for _, o := range orders(l) {
		for _, list := range [][]api.Cart{o, slices.Concat(o, o), slices.Concat(o, o[:3], o[1:2], o[1:2]), slices.Concat([]api.Cart{{}}, o[4:], o, []api.Cart{{}})} {
			if c, err := All(list); !alike(c, want) || err != api.OK {
				t.Fatal(list, c, err)
			}
		}
	}
	for n := range 20 {
		if c, err := All(slices.Repeat([]api.Cart{full()}, n+1)); !alike(c, full()) || err != api.OK {
			t.Fatal(n, c, err)
		}
	}
}

// P11.1 to P11.3: carts that are not valid, as the first argument, as the second one and as both, and at each place of lists.
func TestInvalid(t *testing.T) {
	good := []api.Cart{{}, teaX(), full(), with(con(2, 1, 2, 2, 4, 3, 5, 9, 9))}
	bads := badCarts()
	for i, bad := range bads {
		if isCart(bad) {
			t.Fatal(bad)
		}
		var pairs [][2]api.Cart
		for _, c := range good {
			pairs = append(pairs, [2]api.Cart{bad, c}, [2]api.Cart{c, bad})
		}
		pairs = append(pairs, [2]api.Cart{bad, bad}, [2]api.Cart{bad, bads[(i+1)%len(bads)]})
		for _, p := range pairs {
			if c, err := Join(p[0], p[1]); !alike(c, api.Cart{}) || err != api.ErrArg {
				t.Error(p, c, err)
			}
			if is, err := Within(p[0], p[1]); is || err != api.ErrArg {
				t.Error(p, is, err)
			}
			if is, err := Fits(p[0], p[1]); is || err != api.ErrArg {
				t.Error(p, is, err)
			}
		}
		for _, l := range [][]api.Cart{nil, {full()}, {teaX(), teaY()}, {full(), full(), {}, teaX()}, slices.Repeat(good, 2)} {
			for at := range len(l) + 1 {
				if c, err := All(slices.Insert(slices.Clone(l), at, bad)); !alike(c, api.Cart{}) || err != api.ErrArg {
					t.Error(l, at, c, err)
				}
			}
		}
	}
}

// random returns a valid cart, always the same one with a source in the same state; its marks are few enough for others to have them, too.
func random(r *rand.Rand, replicas, counters, names int) api.Cart {
	var c api.Cart
	for counter := 1; counter <= counters; counter++ {
		for replica := 1; replica <= replicas; replica++ {
			d := api.Dot{Replica: replica, Counter: counter}
			switch r.Intn(4) {
			case 0:
			case 1:
				c = add(c, d)
			default:
				c = put(c, "Item "+strconv.Itoa((replica+counter+r.Intn(5)/4)%names), api.Mark{Dot: d, Qty: 1 + counter + r.Intn(5)/4, Time: uint64(1 + counter + r.Intn(5)/4)})
			}
		}
	}
	return c
}

// P11.1 to P11.4: larger carts, which nearly never fit.
func TestRandom(t *testing.T) {
	r := rand.New(rand.NewSource(11))
	for i := range 150 {
		var l []api.Cart
		for range 5 {
			l = append(l, random(r, 1+i%6, 1+i%10, 1+i%7))
		}
		a, b, c := l[0], l[1], l[2]
		hold(t, a, b)
		hold(t, joinOf(a, b), c)
		left, right := joined(t, joined(t, a, b), c), joined(t, a, joined(t, b, c))
		if !alike(left, right) || !alike(left, joinOf(joinOf(a, b), c)) {
			t.Fatal(a, b, c, left, right)
		}
		want, _ := allOf(l)
		for range 5 {
			r.Shuffle(len(l), func(i, k int) { l[i], l[k] = l[k], l[i] })
			if all, err := All(append(l, l[r.Intn(len(l))])); !alike(all, want) || err != api.OK {
				t.Fatal(l, all, err)
			}
		}
	}
}

// node is a replica that has a cart; what it made and what it removed go to the others in deltas.
type node struct {
	cart api.Cart
	made int
}

// change makes a mark in the item with a name, which takes the place of all that it has if set is true; or removes the item, if the quantity is 0. It returns the delta and the dots that were removed.
func (n *node) change(t *testing.T, replica, q int, name string, time uint64, set bool) (api.Cart, []api.Dot) {
	var delta api.Cart
	var gone []api.Dot
	if set || q == 0 {
		for _, m := range marksOf(n.cart, name) {
			delta, gone = add(delta, m.Dot), append(gone, m.Dot)
		}
	}
	if q > 0 {
		n.made++
		delta = put(delta, name, mark(replica, n.made, q, time))
	}
	n.cart = joined(t, n.cart, delta)
	return delta, gone
}

// P11.4 (P0.4): replicas that change a cart at the same time, and get deltas and whole carts in any order and any number of times, have in the end what was made and not removed.
func TestConverge(t *testing.T) {
	r := rand.New(rand.NewSource(4))
	for range 40 {
		nodes := make([]node, 4)
		var deltas []api.Cart
		made, removed := map[api.Mark]string{}, map[api.Dot]bool{}
		for i := range 60 {
			k := r.Intn(len(nodes))
			n := &nodes[k]
			switch r.Intn(4) {
			case 0:
				n.cart = joined(t, nodes[r.Intn(len(nodes))].cart, n.cart)
			case 1:
				if len(deltas) > 0 {
					n.cart = joined(t, n.cart, deltas[r.Intn(len(deltas))])
				}
			default:
				name, before := "Item "+strconv.Itoa(r.Intn(3)), n.made
				delta, gone := n.change(t, k+1, r.Intn(3), name, uint64(1+i), r.Intn(2) == 0)
				deltas = append(deltas, delta)
				if n.made > before {
					made[marksOf(delta, name)[0]] = name
				}
				for _, d := range gone {
					removed[d] = true
				}
			}
		}
		maps.DeleteFunc(made, func(m api.Mark, name string) bool { return removed[m.Dot] })
		r.Shuffle(len(deltas), func(i, k int) { deltas[i], deltas[k] = deltas[k], deltas[i] })
		all, err := All(slices.Concat(deltas, deltas[:len(deltas)/2]))
		if err != api.OK || !isCart(all) {
			t.Fatal(all, err)
		}
		left := map[api.Mark]string{}
		for _, x := range all.Items {
			for _, m := range x.Marks {
				left[m] = x.Name
			}
		}
		if !maps.Equal(left, made) {
			t.Fatal(left, made)
		}
		for k, n := range nodes {
			if !isWithin(t, n.cart, all) || !isFit(t, n.cart, all) {
				t.Fatal(n.cart, all)
			}
			for _, i := range r.Perm(len(deltas)) {
				n.cart = joined(t, n.cart, deltas[i])
			}
			if !alike(n.cart, all) {
				t.Fatal(k, n.cart, all)
			}
		}
		if c, err := All([]api.Cart{nodes[2].cart, nodes[0].cart, nodes[3].cart, nodes[1].cart}); !alike(c, all) || err != api.OK {
			t.Fatal(c, all, err)
		}
	}
}

// P1: many items, many marks, a vector with all replicas, and many carts; with what is wrong behind all the others.
func TestLong(t *testing.T) {
	const size = 1 << 15
	// The dots are 1.1 2.2 1.3 2.4 and so on.
	even, odd, both := with(con(1, 2, size)), with(con(1, 1, size)), with(con(2, 1, size, 2, size))
	var parts []api.Cart
	for i := range size {
		x := item(strconv.Itoa(1000000+i), mark(1+i%2, 1+i, 1+i, 7))
		both.Items = append(both.Items, x)
		if i%2 == 0 {
			odd.Items = append(odd.Items, x)
		} else {
			even.Items = append(even.Items, x)
		}
		parts = append(parts, put(api.Cart{}, x.Name, x.Marks[0]))
	}
	for i, c := range []struct{ a, b, want api.Cart }{{odd, even, both}, {even, odd, both}, {both, odd, both}, {both, api.Cart{}, both}} {
		if v, err := Join(c.a, c.b); !alike(v, c.want) || err != api.OK {
			t.Error(i, err)
		}
	}
	var wide api.Cart
	for replica := 1; replica <= api.MaxReplica; replica++ {
		wide.Context.Vector = append(wide.Context.Vector, api.Dot{Replica: replica, Counter: size})
	}
	if c, err := Join(both, wide); !alike(c, wide) || err != api.OK || !isWithin(t, both, wide) || isWithin(t, wide, both) {
		t.Error("all replicas", err)
	}
	if c, err := All(parts); !alike(with(api.Context{}, c.Items...), with(api.Context{}, both.Items...)) || !slices.Equal(c.Context.Vector, dots(1, 1)) || len(c.Context.Cloud) != size-1 || err != api.OK {
		t.Error("many carts", err)
	}
	parts[size-1].Context = con(0, 1, size)
	if c, err := All(parts); !alike(c, api.Cart{}) || err != api.ErrArg {
		t.Error("the last cart is not valid", err)
	}
	other := deep(both)
	other.Items[size-1].Marks[0].Qty++
	if !isFit(t, both, odd) || !isFit(t, other, odd) || isFit(t, both, other) || isFit(t, other, both) {
		t.Error("the last mark differs")
	}
	other.Items[size-1].Marks[0].Dot.Counter++
	if c, err := Join(odd, other); !alike(c, api.Cart{}) || err != api.ErrArg {
		t.Error("the last dot was not seen", err)
	}
	if is, err := Fits(odd, other); is || err != api.ErrArg {
		t.Error(is, err)
	}
}

// P1: an item with many marks, of which each cart has some, and one has seen some more.
func TestManyMarks(t *testing.T) {
	const size = 1 << 15
	a, b := with(con(1, 1, size), item("Tea")), with(con(1, 2, size), item("Tea"))
	var want []api.Mark
	for i := range size {
		m := mark(1+i%2, 1+i, 1+i, 1+uint64(i))
		if i%2 == 0 {
			a.Items[0].Marks = append(a.Items[0].Marks, m)
		} else {
			b.Items[0].Marks = append(b.Items[0].Marks, m)
		}
		want = append(want, m)
	}
	c, err := Join(b, a)
	if !alike(c, with(con(2, 1, size, 2, size), item("Tea", want...))) || err != api.OK {
		t.Error(err)
	}
	if v, err := Join(c, with(con(2, 1, size, 2, size-1))); !alike(v, with(c.Context, item("Tea", want[size-1]))) || err != api.OK {
		t.Error(err)
	}
	if v, err := Join(c, with(con(2, 1, size, 2, size))); !alike(v, with(c.Context)) || err != api.OK {
		t.Error(err)
	}
}

// span is the memory of a slice, up to its capacity, or of a string.
type span struct{ from, to uintptr }

func sliceSpan[T any](l []T) span {
	var one T
	from := uintptr(unsafe.Pointer(unsafe.SliceData(l)))
	return span{from, from + uintptr(cap(l))*unsafe.Sizeof(one)}
}
func stringSpan(s string) span {
	from := uintptr(unsafe.Pointer(unsafe.StringData(s)))
	return span{from, from + uintptr(len(s))}
}

// overlap is whether two spans share memory, spans are those of a cart.
func overlap(a, b span) bool { return max(a.from, b.from) < min(a.to, b.to) }
func spans(c api.Cart) []span {
	out := []span{sliceSpan(c.Context.Vector), sliceSpan(c.Context.Cloud), sliceSpan(c.Items)}
	for _, x := range c.Items {
		out = append(out, stringSpan(x.Name), sliceSpan(x.Marks))
	}
	return out
}

// results are the carts that calls with two carts return, each call made twice.
func results(a, b api.Cart) []api.Cart {
	var out []api.Cart
	for range 2 {
		for _, p := range [][2]api.Cart{{a, b}, {b, a}, {a, a}, {a, api.Cart{}}, {api.Cart{}, a}} {
			c, _ := Join(p[0], p[1])
			out = append(out, c)
		}
		for _, l := range [][]api.Cart{{a}, {b}, {a, b}, {b, a, b}} {
			c, _ := All(l)
			out = append(out, c)
		}
		Within(a, b)
		Within(b, a)
		Fits(a, b)
	}
	return out
}

// someCarts are carts, some of which are not valid, with dots, marks and items behind the ends of their lists.
func someCarts() []api.Cart {
	out := []api.Cart{{}, full(), teaX(), with(con(2, 1, 2, 2, 4, 9, 9)), with(con(2, 2, 4, 3, 6, 9, 9), nut, item("Pie", mark(2, 3, 1, 1)), item("Tea", mark(2, 2, 5, 5), mark(3, 3, 6, 6))), with(con(2, 1, 2, 2, 4, 9, 9), tea, nut)}
	for i, c := range out {
		c = deep(c)
		for k, x := range c.Items {
			c.Items[k].Marks = append(x.Marks, mark(8, 8, 8, 8))[:len(x.Marks)]
		}
		c.Context.Vector = append(c.Context.Vector, dots(8, 8)...)[:len(c.Context.Vector)]
		c.Context.Cloud = append(c.Context.Cloud, dots(8, 8)...)[:len(c.Context.Cloud)]
		c.Items = append(c.Items, item("Behind", mark(8, 8, 8, 8)))[:len(c.Items)]
		out[i] = c
	}
	return out
}

// whole is a cart with what is behind the ends of its lists.
func whole(c api.Cart) api.Cart {
	c.Context.Vector, c.Context.Cloud = c.Context.Vector[:len(c.Context.Vector)+1], c.Context.Cloud[:len(c.Context.Cloud)+1]
	c.Items = slices.Clone(c.Items[:len(c.Items)+1])
	for k, x := range c.Items[:len(c.Items)-1] {
		c.Items[k].Marks = x.Marks[:len(x.Marks)+1]
	}
	return c
}

// spoil changes all that a cart has, also behind the ends of its lists.
func spoil(c api.Cart) {
	bad := mark(-9, -9, -9, 9)
	for _, l := range [][]api.Dot{c.Context.Vector, c.Context.Cloud} {
		for i := range l[:cap(l)] {
			l[:cap(l)][i] = bad.Dot
		}
	}
	for _, x := range c.Items {
		for i := range x.Marks[:cap(x.Marks)] {
			x.Marks[:cap(x.Marks)][i] = bad
		}
	}
	for i := range c.Items[:cap(c.Items)] {
		c.Items[:cap(c.Items)][i] = item("spoilt", bad)
	}
}

// The rules: no call changes its arguments, not even behind the ends of their lists, and equal calls have equal results.
func TestArgumentsStay(t *testing.T) {
	for i := range someCarts() {
		for k := range someCarts() {
			a, b := someCarts()[i], someCarts()[k]
			before, other := deep(whole(a)), deep(whole(b))
			made := results(a, b)
			if !alike(whole(a), before) || !alike(whole(b), other) {
				t.Error(before, whole(a), other, whole(b))
			}
			if half := len(made) / 2; !slices.EqualFunc(made[:half], made[half:], alike) {
				t.Error(a, b, made)
			}
			l := []api.Cart{a, b, a, b}
			All(l[:3])
			if !alike(l[0], a) || !alike(l[1], b) || !alike(l[2], a) || !alike(l[3], b) {
				t.Error(a, b, l)
			}
		}
	}
}

// The rules: whatever is changed in a result, the arguments and the other results stay what they were; whatever is changed in an argument, the results do.
func TestNewMemory(t *testing.T) {
	for i := range someCarts() {
		for k := range someCarts() {
			a, b := someCarts()[i], someCarts()[k]
			before, other := deep(whole(a)), deep(whole(b))
			made := results(a, b)
			var kept []api.Cart
			for _, c := range made {
				kept = append(kept, deep(c))
			}
			for n, c := range made {
				spoil(c)
				if !slices.EqualFunc(made[n+1:], kept[n+1:], alike) || !alike(whole(a), before) || !alike(whole(b), other) {
					t.Fatal(a, b, n)
				}
			}
			made = results(a, b)
			spoil(a)
			spoil(b)
			if !slices.EqualFunc(made, kept, alike) {
				t.Error(before, other, made)
			}
		}
	}
}

// The rules: no two lists or names of arguments and results share memory, not even behind their ends.
func TestNothingShared(t *testing.T) {
	for i := range someCarts() {
		for k := range someCarts() {
			a, b := someCarts()[i], someCarts()[k]
			given := slices.Concat(spans(a), spans(b))
			var made []span
			for _, c := range results(a, b) {
				made = append(made, spans(c)...)
			}
			for n, x := range made {
				if slices.ContainsFunc(slices.Concat(given, made[n+1:]), func(y span) bool { return overlap(x, y) }) {
					t.Fatal(a, b, n)
				}
			}
		}
	}
}

// The rules: what changes in one part of a result, also by appending, does not change the other parts.
func TestPartsOfResults(t *testing.T) {
	a, b := full(), with(con(2, 1, 1, 6, 2), item("Nut", mark(6, 1, 1, 1)), item("Tea", one, mark(6, 2, 2, 2)))
	c := joined(t, a, b)
	want := deep(c)
	for i := range c.Items {
		_ = append(c.Items[i].Marks, mark(8, 8, 8, 8), mark(8, 8, 8, 8))
	}
	_ = append(c.Context.Vector, dots(8, 8, 8, 9)...)
	_ = append(c.Context.Cloud, dots(8, 8, 8, 9)...)
	if !alike(c, want) {
		t.Error(c, want)
	}
	for i := range c.Items {
		marks := c.Items[i].Marks
		spoil(with(api.Context{}, c.Items[i]))
		rest := slices.Concat(c.Items[:i], c.Items[i+1:])
		if !alike(with(c.Context, rest...), with(want.Context, slices.Concat(want.Items[:i], want.Items[i+1:])...)) {
			t.Error(i, c)
		}
		copy(marks, want.Items[i].Marks)
	}
}
