package delta

import (
	"maps"
	"math"
	"math/rand"
	"regexp"
	"slices"
	"strconv"
	"strings"
	"testing"
	"unsafe"

	"pannier/api"
	"pannier/cart"
	"pannier/join"
)

// mark returns the mark of a dot with a quantity and a time, and item an item.
func mark(replica, counter, q int, time uint64) api.Mark {
	return api.Mark{Dot: at(replica, counter), Qty: q, Time: time}
}
func item(name string, marks ...api.Mark) api.Item { return api.Item{Name: name, Marks: marks} }

// at returns a dot, and dots those of pairs of a replica and a counter.
func at(replica, counter int) api.Dot { return api.Dot{Replica: replica, Counter: counter} }
func dots(l ...int) []api.Dot {
	var out []api.Dot
	for i := 0; i+1 < len(l); i += 2 {
		out = append(out, at(l[i], l[i+1]))
	}
	return out
}

// con returns the context whose vector has the first n of some dots, and whose cloud the others, and with a cart.
func con(n int, l ...int) api.Context {
	d := dots(l...)
	return api.Context{Vector: d[:n], Cloud: d[n:]}
}
func with(seen api.Context, l ...api.Item) api.Cart { return api.Cart{Context: seen, Items: l} }

// alike is whether two carts are equal in all parts, element by element, by the definition.
func alike(a, b api.Cart) bool {
	return slices.Equal(a.Context.Vector, b.Context.Vector) && slices.Equal(a.Context.Cloud, b.Context.Cloud) &&
		slices.EqualFunc(a.Items, b.Items, func(x, y api.Item) bool { return x.Name == y.Name && slices.Equal(x.Marks, y.Marks) })
}

// deep returns a cart that shares no memory with another one, so that it stays what it was.
func deep(c api.Cart) api.Cart {
	out := with(api.Context{Vector: append(api.Vector{}, c.Context.Vector...), Cloud: append([]api.Dot{}, c.Context.Cloud...)})
	for _, x := range c.Items {
		out.Items = append(out.Items, item(strings.Clone(x.Name), append([]api.Mark{}, x.Marks...)...))
	}
	return out
}

// isDot, isQty, isMark and isName are whether a dot, a quantity, a mark and a name are valid, by the definitions.
func isDot(d api.Dot) bool {
	return d.Replica > 0 && d.Replica < 65536 && d.Counter > 0 && d.Counter < 1<<32
}
func isQty(q int) bool       { return q > 0 && q < 1<<31 }
func isMark(m api.Mark) bool { return isDot(m.Dot) && isQty(m.Qty) && m.Time > 0 }
func isName(s string) bool   { return len(s) <= 64 && words.MatchString(s) }

// words are words with single spaces between them.
var words = regexp.MustCompile(`^[!-~]+( [!-~]+)*$`)

// byDots compares dots by their order.
func byDots(a, b api.Dot) int {
	switch {
	case a.Counter < b.Counter || a.Counter == b.Counter && a.Replica < b.Replica:
		return -1
	case a == b:
		return 0
	default:
		return 1
	}
}

// isContext is whether a context is valid and compact, by the definitions.
func isContext(c api.Context) bool {
	for i, d := range c.Vector {
		if !isDot(d) || i > 0 && c.Vector[i-1].Replica >= d.Replica {
			return false
		}
	}
	for i, d := range c.Cloud {
		if !isDot(d) || i > 0 && byDots(c.Cloud[i-1], d) >= 0 || d.Counter <= last(c, d.Replica)+1 {
			return false
		}
	}
	return true
}

// last is the counter of a replica in the vector of a context, and in whether a valid dot is in the context.
func last(c api.Context, replica int) int {
	for _, d := range c.Vector {
		if d.Replica == replica {
			return d.Counter
		}
	}
	return 0
}
func in(c api.Context, d api.Dot) bool {
	return d.Counter <= last(c, d.Replica) || slices.Contains(c.Cloud, d)
}

// isCart is whether a cart is valid, by the definitions.
func isCart(c api.Cart) bool {
	seen := map[api.Dot]bool{}
	for i, x := range c.Items {
		if !isName(x.Name) || len(x.Marks) == 0 || i > 0 && c.Items[i-1].Name >= x.Name {
			return false
		}
		for k, m := range x.Marks {
			if !isMark(m) || k > 0 && byDots(x.Marks[k-1].Dot, m.Dot) >= 0 || seen[m.Dot] || !in(c.Context, m.Dot) {
				return false
			}
			seen[m.Dot] = true
		}
	}
	return isContext(c.Context)
}

// plus is the compact context with the dots of a valid one and some more, made step by step.
func plus(c api.Context, more ...api.Dot) api.Context {
	seen := map[int]int{}
	for _, d := range c.Vector {
		seen[d.Replica] = d.Counter
	}
	cloud := slices.Concat(c.Cloud, more)
	goes := func(d api.Dot) bool { return d.Counter <= seen[d.Replica]+1 }
	for i := slices.IndexFunc(cloud, goes); i >= 0; i = slices.IndexFunc(cloud, goes) {
		d := cloud[i]
		seen[d.Replica] = max(seen[d.Replica], d.Counter)
		cloud = slices.Delete(cloud, i, i+1)
	}
	var out api.Context
	for _, replica := range slices.Sorted(maps.Keys(seen)) {
		out.Vector = append(out.Vector, at(replica, seen[replica]))
	}
	slices.SortFunc(cloud, byDots)
	out.Cloud = slices.Compact(cloud)
	return out
}

// marksOf are the marks that a cart has in the item with a name, dotsOf the dots of marks, and all the marks of all items.
func marksOf(c api.Cart, name string) []api.Mark {
	for _, x := range c.Items {
		if x.Name == name {
			return x.Marks
		}
	}
	return nil
}
func dotsOf(l []api.Mark) []api.Dot {
	var out []api.Dot
	for _, m := range l {
		out = append(out, m.Dot)
	}
	return out
}
func all(c api.Cart) []api.Mark {
	var out []api.Mark
	for _, x := range c.Items {
		out = append(out, x.Marks...)
	}
	return out
}

// timeOf is the time of the next mark of a cart, and whether there is one.
func timeOf(c api.Cart) (uint64, bool) {
	var most uint64
	for _, m := range all(c) {
		most = max(most, m.Time)
	}
	return most + 1, most < math.MaxUint64
}

// change is a call of one of the functions that return deltas, all but for the cart.
type change struct {
	op   api.Op
	dot  api.Dot
	name string
	q    int
}

// ops are those that there are.
var ops = []api.Op{api.OpAdd, api.OpSet, api.OpRemove, api.OpClear}

// of makes the call for a cart, and puts is whether it makes a mark.
func (x change) of(c api.Cart) (api.Cart, api.Errno) {
	switch x.op {
	case api.OpAdd:
		return Add(c, x.dot, x.name, x.q)
	case api.OpSet:
		return Set(c, x.dot, x.name, x.q)
	case api.OpRemove:
		return Remove(c, x.name)
	default:
		return Clear(c)
	}
}
func (x change) puts() bool { return x.op == api.OpAdd || x.op == api.OpSet }

// wrong is the error of a call, by the list of the chapter.
func (x change) wrong(c api.Cart) api.Errno {
	there := len(marksOf(c, x.name)) > 0
	_, more := timeOf(c)
	switch {
	case !isCart(c):
		return api.ErrArg
	case x.puts() && (!isDot(x.dot) || in(c.Context, x.dot)):
		return api.ErrArg
	case x.op != api.OpClear && !isName(x.name):
		return api.ErrArg
	case x.puts() && !isQty(x.q):
		return api.ErrQty
	case (x.op == api.OpSet || x.op == api.OpRemove) && !there:
		return api.ErrNone
	case x.op == api.OpAdd && !there && len(c.Items) >= 256:
		return api.ErrTooMany
	case x.puts() && !more:
		return api.ErrExhausted
	}
	return api.OK
}

// want is the delta of a call without an error, by the definitions: removed are the dots of the marks that it takes away, and made is the mark that it makes.
func (x change) want(c api.Cart) api.Cart {
	if !x.puts() {
		return with(plus(api.Context{}, x.removed(c)...))
	}
	return with(plus(api.Context{}, append(x.removed(c), x.dot)...), item(x.name, x.made(c)))
}
func (x change) removed(c api.Cart) []api.Dot {
	if x.op == api.OpClear {
		return dotsOf(all(c))
	}
	return dotsOf(marksOf(c, x.name))
}
func (x change) made(c api.Cart) api.Mark {
	time, _ := timeOf(c)
	return api.Mark{Dot: x.dot, Qty: x.q, Time: time}
}

// after is a cart after changes that were all made for it, each without the others: no mark is there that one of them takes away, and each is there that one of them makes.
func after(c api.Cart, l ...change) api.Cart {
	gone := map[api.Dot]bool{}
	marks := map[string][]api.Mark{}
	seen := deep(c).Context
	for _, x := range c.Items {
		marks[x.Name] = slices.Clone(x.Marks)
	}
	for _, x := range l {
		for _, d := range x.removed(c) {
			gone[d] = true
		}
		if x.puts() {
			marks[x.name] = append(marks[x.name], x.made(c))
			seen = plus(seen, x.dot)
		}
	}
	out := with(seen)
	for _, name := range slices.Sorted(maps.Keys(marks)) {
		left := slices.DeleteFunc(marks[name], func(m api.Mark) bool { return gone[m.Dot] })
		slices.SortFunc(left, func(m, o api.Mark) int { return byDots(m.Dot, o.Dot) })
		if len(left) > 0 {
			out.Items = append(out.Items, item(name, left...))
		}
	}
	return out
}

// joined is the join of carts that are valid.
func joined(t *testing.T, l ...api.Cart) api.Cart {
	t.Helper()
	c, err := join.All(l)
	if err != api.OK {
		t.Fatal(l, err)
	}
	return c
}

// made is the delta of a call that has no error.
func made(t *testing.T, c api.Cart, x change) api.Cart {
	t.Helper()
	d, err := x.of(c)
	if err != api.OK {
		t.Fatal(c, x, err)
	}
	return d
}

// hold holds a call with any arguments against the definitions, and what the delta does against what follows.
func hold(t *testing.T, c api.Cart, x change) {
	t.Helper()
	d, err := x.of(c)
	if wrong := x.wrong(c); wrong != api.OK {
		if err != wrong || !alike(d, api.Cart{}) {
			t.Fatal(c, x, d, err)
		}
		return
	}
	if err != api.OK || !alike(d, x.want(c)) || !isCart(d) || !cart.Valid(d) {
		t.Fatal(c, x, d, err)
	}
	follow(t, c, x, d)
}

// follow holds what is there after joining a delta against what follows: for the item, for all others, and for the context; whoever joins it, and how often.
func follow(t *testing.T, c api.Cart, x change, d api.Cart) {
	t.Helper()
	next := joined(t, c, d)
	if !alike(next, after(c, x)) || !alike(joined(t, next, d), next) || !alike(joined(t, d, c), next) || !alike(joined(t, d, c, d, d), next) {
		t.Fatal(c, x, d, next)
	}
	rest := slices.DeleteFunc(slices.Clone(next.Items), func(y api.Item) bool { return y.Name == x.name })
	others := slices.DeleteFunc(slices.Clone(c.Items), func(y api.Item) bool { return y.Name == x.name })
	q, err := cart.Qty(next, x.name)
	switch {
	case x.op == api.OpClear:
		if len(next.Items) > 0 || !alike(with(next.Context), with(c.Context)) {
			t.Fatal(c, x, d, next)
		}
	case !alike(with(api.Context{}, rest...), with(api.Context{}, others...)):
		t.Fatal("the others", c, x, d, next)
	case x.op == api.OpRemove:
		if err != api.ErrNone || !alike(with(next.Context), with(c.Context)) {
			t.Fatal(c, x, d, next, err)
		}
	default:
		if err != api.OK || q != x.q || !slices.Equal(marksOf(next, x.name), []api.Mark{x.made(c)}) || !alike(with(next.Context), with(plus(c.Context, x.dot))) {
			t.Fatal(c, x, d, next, q, err)
		}
		if Fresh(next, x.dot) {
			t.Fatal("still fresh", c, x)
		}
	}
}

// isFresh and isEmpty are what Fresh and Empty return, by the definitions.
func isFresh(c api.Cart, d api.Dot) bool { return isCart(c) && isDot(d) && !in(c.Context, d) }
func isEmpty(c api.Cart) bool {
	return len(c.Context.Vector)+len(c.Context.Cloud)+len(c.Items) == 0
}

// saw is a valid cart that has seen a dot, too, and got one that has a mark with a dot that it had not, in the item with a name.
func saw(c api.Cart, d api.Dot) api.Cart {
	c.Context = plus(c.Context, d)
	return c
}
func got(c api.Cart, name string, m api.Mark) api.Cart {
	out := deep(saw(c, m.Dot))
	i := slices.IndexFunc(out.Items, func(x api.Item) bool { return x.Name >= name })
	switch {
	case i < 0:
		out.Items = append(out.Items, item(name, m))
	case out.Items[i].Name != name:
		out.Items = slices.Insert(out.Items, i, item(name, m))
	default:
		out.Items[i].Marks = append(out.Items[i].Marks, m)
		slices.SortFunc(out.Items[i].Marks, func(m, o api.Mark) int { return byDots(m.Dot, o.Dot) })
	}
	return out
}

// grid are all carts that know something of some dots: of each one nothing, that it was, or a mark with one of a few quantities and times in the item with one of a few names.
func grid(names []string, says []api.Mark, few ...api.Dot) []api.Cart {
	out := []api.Cart{{}}
	for _, d := range few {
		var next []api.Cart
		for _, c := range out {
			next = append(next, c, saw(c, d))
			for _, name := range names {
				for _, m := range says {
					m.Dot = d
					next = append(next, got(c, name, m))
				}
			}
		}
		out = next
	}
	return out
}

// Some carts: that of the chapter's examples, and one with several items, a cloud, a gap, and marks of several replicas.
var (
	one, two = mark(1, 1, 5, 3), mark(2, 1, 7, 4)
	nut      = item("Nut", two)
	tea      = item("Tea", one, mark(1, 2, 2, 9))
	oil      = item("Oil", mark(3, 5, 1, 1))
)

func given() api.Cart { return deep(with(con(2, 1, 2, 2, 1), nut, tea)) }
func full() api.Cart  { return deep(with(con(2, 1, 2, 2, 4, 3, 5, 9, 9), nut, oil, tea)) }

// badCarts are carts that are not valid, each of them for one reason alone, near to a cart that is.
func badCarts() []api.Cart {
	seen := full().Context
	return []api.Cart{
		// A dot that was not seen: of a mark in front, in the middle and behind.
		with(con(0), item("Tea", one)), with(con(1, 1, 2, 3, 5), nut, oil, tea), with(con(2, 1, 2, 2, 4), nut, oil, tea), with(con(2, 1, 1, 2, 4, 3, 5), nut, oil, tea), with(con(1, 2, 4, 1, 2, 3, 5), nut, oil, tea),
		// A context that is not compact, with items and without.
		with(con(0, 1, 1)), with(con(1, 1, 1, 1, 2)), with(con(1, 1, 2, 1, 2)), with(con(2, 1, 2, 2, 4, 1, 1, 3, 5), nut, oil, tea), with(con(2, 1, 2, 2, 4, 2, 5, 3, 5), nut, oil, tea), with(con(2, 1, 2, 2, 4, 9, 1, 3, 5), nut, oil, tea),
		// A context that is not valid.
		with(con(2, 2, 1, 1, 1)), with(con(2, 1, 1, 1, 1)), with(con(2, 1, 1, 1, 2)), with(con(0, 1, 5, 1, 3)), with(con(0, 1, 3, 1, 3)), with(con(1, 0, 1)), with(con(1, 1, 0)), with(con(1, 65536, 1)), with(con(1, 1, 4294967296)), with(con(0, 0, 2)), with(con(0, -2, 2)), with(con(0, 65536, 2)), with(con(0, 1, 4294967296)), with(con(2, 2, 4, 1, 2, 3, 5, 9, 9), nut, oil, tea), with(con(2, 1, 2, 2, 4, 9, 9, 3, 5), nut, oil, tea),
		// Items that are not in order, that are there twice, or that share a dot.
		with(seen, oil, nut, tea), with(seen, nut, tea, oil), with(seen, nut, nut), with(seen, item("Tea", tea.Marks[0]), item("Tea", tea.Marks[1])), with(seen, nut, oil, item("Tea", one, two)), with(seen, item("Ale", one), nut, oil, tea),
		// Marks that are not in order, or twice.
		with(seen, nut, oil, item("Tea", tea.Marks[1], tea.Marks[0])), with(seen, nut, oil, item("Tea", one, one)), with(seen, nut, oil, item("Tea", one, mark(1, 1, 6, 3))),
		// Items and marks that are not valid by themselves.
		with(seen, item("Nut"), oil, tea), with(seen, nut, oil, item("Tea")), with(seen, item("", two), oil, tea), with(seen, nut, oil, item("Tea ", one)), with(seen, nut, oil, item("Te\na", one)), with(seen, nut, oil, item("T\u00e9", one)), with(seen, nut, oil, item(strings.Repeat("t", 65), one)),
		with(seen, api.Item{}), with(seen, item("Tea", api.Mark{})), with(seen, item("Tea", mark(1, 1, 0, 3))), with(seen, item("Tea", mark(1, 1, -1, 3))), with(seen, item("Tea", mark(1, 1, 2147483648, 3))), with(seen, item("Tea", mark(1, 1, 5, 0))), with(seen, item("Tea", one, mark(0, 2, 5, 3))), with(seen, item("Tea", mark(1, 0, 5, 3))), with(seen, item("Tea", mark(math.MinInt, math.MaxInt, 5, 3))),
	}
}

// badDots are dots that are not valid, badNames strings that are no names, and badQtys numbers that are no quantities.
func badDots() []api.Dot {
	return dots(0, 0, 0, 1, 1, 0, -1, 9, 9, -1, 65536, 1, 65536, 9, 9, 4294967296, 65537, 4294967297, math.MinInt, math.MinInt, math.MaxInt, math.MaxInt)
}
func badNames() []string {
	return []string{"", " ", "  ", " Tea", "Tea ", "Te  a", "Te\ta", "Tea\n", "\x00", "\x7f", "Te\x1fa", "T\u00e9", "\xff", strings.Repeat("t", 65), strings.Repeat("t", 1<<16)}
}
func badQtys() []int { return []int{0, -1, -5, 2147483648, 4294967297, math.MinInt, math.MaxInt} }

// many is a cart with a number of items, Item 1000, Item 1001 and so on, each with a mark of the replica 1.
func many(n int) api.Cart {
	var c api.Cart
	if n > 0 {
		c.Context = con(1, 1, n)
	}
	for i := range n {
		c.Items = append(c.Items, item("Item "+strconv.Itoa(1000+i), mark(1, 1+i, 3, uint64(1+i))))
	}
	return c
}

// P12.1 to P12.3: the examples of the chapter.
func TestExamples(t *testing.T) {
	c := given()
	for i, x := range []struct {
		call change
		want api.Cart
		err  api.Errno
	}{
		{change{api.OpAdd, at(1, 3), "Tea", 4}, with(con(1, 1, 3), item("Tea", mark(1, 3, 4, 10))), api.OK},
		{change{api.OpAdd, at(1, 4), "Oil", 1}, with(con(0, 1, 4), item("Oil", mark(1, 4, 1, 10))), api.OK},
		{change{api.OpSet, at(2, 2), "Nut", 8}, with(con(1, 2, 2), item("Nut", mark(2, 2, 8, 10))), api.OK},
		{change{op: api.OpRemove, name: "Tea"}, with(con(1, 1, 2)), api.OK},
		{change{op: api.OpClear}, with(con(2, 1, 2, 2, 1)), api.OK},
		{change{api.OpAdd, at(1, 2), "Oil", 1}, api.Cart{}, api.ErrArg},
		{change{api.OpAdd, at(1, 3), "", 0}, api.Cart{}, api.ErrArg},
		{change{api.OpAdd, at(1, 3), "Oil", 0}, api.Cart{}, api.ErrQty},
		{change{api.OpSet, at(1, 3), "Oil", 0}, api.Cart{}, api.ErrQty},
		{change{api.OpSet, at(1, 3), "Oil", 1}, api.Cart{}, api.ErrNone},
		{change{op: api.OpRemove, name: "Oil"}, api.Cart{}, api.ErrNone},
	} {
		if d, err := x.call.of(c); !alike(d, x.want) || err != x.err {
			t.Error(i, d, err)
		}
		hold(t, c, x.call)
	}
	zero, err := Clear(api.Cart{})
	if !alike(zero, api.Cart{}) || err != api.OK || !Empty(zero) || Empty(c) {
		t.Error(zero, err)
	}
	if !Fresh(c, at(1, 3)) || Fresh(c, at(2, 1)) || Fresh(c, at(0, 1)) {
		t.Error("Fresh")
	}
}

// P12.1 and P12.2: deltas that are known.
func TestKnown(t *testing.T) {
	const most, end = math.MaxInt32, math.MaxUint64
	long := strings.Repeat("t", 64)
	for i, x := range []struct {
		c    api.Cart
		call change
		want api.Cart
	}{
		// The zero cart, and one without items that has seen something: the first time is 1 in both.
		{api.Cart{}, change{api.OpAdd, at(1, 1), "Tea", 1}, with(con(1, 1, 1), item("Tea", mark(1, 1, 1, 1)))},
		{api.Cart{}, change{api.OpAdd, at(9, 7), "Tea", most}, with(con(0, 9, 7), item("Tea", mark(9, 7, most, 1)))},
		{api.Cart{}, change{op: api.OpClear}, api.Cart{}},
		{with(con(1, 1, 8, 9, 9)), change{api.OpAdd, at(1, 9), "Tea", 2}, with(con(0, 1, 9), item("Tea", mark(1, 9, 2, 1)))},
		{with(con(1, 1, 8, 9, 9)), change{api.OpAdd, at(9, 1), "Tea", 2}, with(con(1, 9, 1), item("Tea", mark(9, 1, 2, 1)))},
		{with(con(1, 1, 8, 9, 9)), change{op: api.OpClear}, api.Cart{}},
		// An item that is there: its dots, of one mark and of several, and no others; also those behind the vector.
		{full(), change{api.OpAdd, at(2, 5), "Nut", 7}, with(con(1, 2, 1, 2, 5), item("Nut", mark(2, 5, 7, 10)))},
		{full(), change{api.OpSet, at(3, 6), "Oil", 1}, with(con(0, 3, 5, 3, 6), item("Oil", mark(3, 6, 1, 10)))},
		{full(), change{api.OpSet, at(3, 1), "Oil", 1}, with(con(1, 3, 1, 3, 5), item("Oil", mark(3, 1, 1, 10)))},
		{full(), change{api.OpSet, at(3, 4), "Oil", 1}, with(con(0, 3, 4, 3, 5), item("Oil", mark(3, 4, 1, 10)))},
		{full(), change{api.OpAdd, at(7, 1), "Tea", 1}, with(con(2, 1, 2, 7, 1), item("Tea", mark(7, 1, 1, 10)))},
		{full(), change{api.OpSet, at(7, 2), "Tea", 2}, with(con(1, 1, 2, 7, 2), item("Tea", mark(7, 2, 2, 10)))},
		{full(), change{api.OpSet, at(1, 3), "Tea", 2}, with(con(1, 1, 3), item("Tea", mark(1, 3, 2, 10)))},
		{full(), change{op: api.OpRemove, name: "Oil"}, with(con(0, 3, 5))},
		{full(), change{op: api.OpRemove, name: "Nut"}, with(con(1, 2, 1))},
		{full(), change{op: api.OpRemove, name: "Tea"}, with(con(1, 1, 2))},
		{full(), change{op: api.OpClear}, with(con(2, 1, 2, 2, 1, 3, 5))},
		// An item that is not there: the new dot alone, also where other dots were seen.
		{full(), change{api.OpAdd, at(9, 10), "Te", 3}, with(con(0, 9, 10), item("Te", mark(9, 10, 3, 10)))},
		{full(), change{api.OpAdd, at(9, 1), "tea", 3}, with(con(1, 9, 1), item("tea", mark(9, 1, 3, 10)))},
		{full(), change{api.OpAdd, at(3, 6), "Tea and nut", 3}, with(con(0, 3, 6), item("Tea and nut", mark(3, 6, 3, 10)))},
		// The first dot of an item in the cloud, the next ones closed by the new one.
		{with(con(0, 1, 2, 1, 3), item("Tea", mark(1, 2, 1, 1), mark(1, 3, 1, 1))), change{api.OpSet, at(1, 1), "Tea", 6}, with(con(1, 1, 3), item("Tea", mark(1, 1, 6, 2)))},
		{with(con(1, 1, 5), item("Tea", mark(1, 2, 1, 1), mark(1, 4, 1, 1))), change{api.OpAdd, at(1, 6), "Tea", 6}, with(con(0, 1, 2, 1, 4, 1, 6), item("Tea", mark(1, 6, 6, 2)))},
		{with(con(1, 1, 5), item("Tea", mark(1, 2, 1, 1), mark(1, 4, 1, 1))), change{op: api.OpRemove, name: "Tea"}, with(con(0, 1, 2, 1, 4))},
		{with(con(1, 1, 5), item("Oil", mark(1, 1, 1, 1)), item("Tea", mark(1, 2, 1, 1), mark(1, 4, 1, 1))), change{op: api.OpClear}, with(con(1, 1, 2, 1, 4))},
		// The greatest time: of any mark of any item, not that of the last one; and the last one that there is.
		{with(con(1, 1, 3), item("A", mark(1, 1, 1, 900), mark(1, 2, 1, 5)), item("B", mark(1, 3, 1, 7))), change{api.OpSet, at(1, 4), "B", 2}, with(con(0, 1, 3, 1, 4), item("B", mark(1, 4, 2, 901)))},
		{with(con(1, 1, 1), item("A", mark(1, 1, 1, end-1))), change{api.OpAdd, at(1, 2), "B", 2}, with(con(0, 1, 2), item("B", mark(1, 2, 2, end)))},
		{with(con(1, 1, 1), item("A", mark(1, 1, 1, end))), change{op: api.OpRemove, name: "A"}, with(con(1, 1, 1))},
		{with(con(1, 1, 1), item("A", mark(1, 1, 1, end))), change{op: api.OpClear}, with(con(1, 1, 1))},
		// The limits.
		{api.Cart{}, change{api.OpAdd, at(65535, 4294967295), long, most}, with(con(0, 65535, 4294967295), item(long, mark(65535, 4294967295, most, 1)))},
		{with(con(1, 65535, 4294967294), item(long, mark(65535, 4294967294, 1, 1))), change{api.OpSet, at(65535, 4294967295), long, most}, with(con(0, 65535, 4294967294, 65535, 4294967295), item(long, mark(65535, 4294967295, most, 2)))},
		{with(con(1, 65535, 4294967295), item(long, mark(65535, 4294967295, most, end))), change{op: api.OpRemove, name: long}, with(con(0, 65535, 4294967295))},
	} {
		if d, err := x.call.of(x.c); !alike(d, x.want) || err != api.OK {
			t.Error(i, d, err)
		}
		hold(t, x.c, x.call)
	}
}

// P12.1 to P12.4: all carts that know something of three dots, with dots that are fresh and not, names that are there and not, and quantities.
func TestGrid(t *testing.T) {
	for _, c := range grid([]string{"a", "b"}, []api.Mark{{Qty: 1, Time: 2}, {Qty: 2, Time: 1}}, dots(1, 1, 2, 1, 1, 2)...) {
		for _, name := range []string{"a", "b", "a b", ""} {
			hold(t, c, change{op: api.OpRemove, name: name})
			for _, d := range dots(1, 1, 1, 2, 1, 3, 1, 4, 2, 1, 2, 2, 3, 1, 0, 1, 1, 0) {
				for _, q := range []int{0, 1, 5} {
					hold(t, c, change{api.OpAdd, d, name, q})
					hold(t, c, change{api.OpSet, d, name, q})
				}
				if Fresh(c, d) != isFresh(c, d) {
					t.Fatal(c, d)
				}
			}
		}
		hold(t, c, change{op: api.OpClear})
		if Empty(c) != isEmpty(c) {
			t.Fatal(c)
		}
	}
}

// P12.1 to P12.4: an item whose marks are any of some dots, while the cart has seen any of them, and another item has the others or not.
func TestMarks(t *testing.T) {
	few := dots(1, 1, 1, 2, 1, 3, 2, 2, 1, 4)
	for _, c := range grid([]string{"a", "b"}, []api.Mark{{Qty: 3, Time: 4}}, few...) {
		for _, d := range append(few, dots(1, 5, 1, 6, 2, 1, 2, 3)...) {
			hold(t, c, change{api.OpAdd, d, "a", 2})
			hold(t, c, change{api.OpSet, d, "a", 2})
		}
		hold(t, c, change{op: api.OpRemove, name: "a"})
		hold(t, c, change{op: api.OpClear})
	}
}

// errorCart is a cart with the name of an item that is there: it is not valid, it has api.MaxItems items or more, or one of its marks has the greatest time.
type errorCart struct {
	c                api.Cart
	there            string
	bad, full, never bool
}

// errorCarts are those with nothing of this, with one of it, and with several.
func errorCarts() []errorCart {
	lasting := func(c api.Cart) api.Cart {
		c = deep(c)
		c.Items[0].Marks[0].Time = math.MaxUint64
		return c
	}
	broken := full()
	broken.Context.Vector[0].Counter = 1
	return []errorCart{
		{full(), "Tea", false, false, false}, {lasting(full()), "Tea", false, false, true}, {broken, "Tea", true, false, false}, {lasting(broken), "Tea", true, false, true},
		{many(255), "Item 1254", false, false, false}, {many(256), "Item 1255", false, true, false}, {lasting(many(256)), "Item 1255", false, true, true}, {many(300), "Item 1299", false, true, false}, {lasting(many(300)), "Item 1000", false, true, true},
	}
}

// putErrors are the errors of Add and of Set, in the order of the chapter, for an item that is there, absent, or no name (neither).
func (x errorCart) putErrors(fresh, there, absent, isQty bool) (ofAdd, ofSet api.Errno) {
	switch {
	case x.bad || !fresh || !there && !absent:
		return api.ErrArg, api.ErrArg
	case !isQty:
		return api.ErrQty, api.ErrQty
	}
	if x.never {
		ofAdd, ofSet = api.ErrExhausted, api.ErrExhausted
	}
	if absent {
		ofSet = api.ErrNone
	}
	if absent && x.full {
		ofAdd = api.ErrTooMany
	}
	return ofAdd, ofSet
}

// P12.1: each error alone, and all of them together, in the order of the chapter: what is wrong first is what is returned.
func TestErrors(t *testing.T) {
	for _, x := range errorCarts() {
		// The first two dots are fresh, the others are not: they are not valid, or in the vector, or, in some of the carts, behind it.
		list := slices.Concat(dots(8, 1, 8, 7), badDots(), dots(1, 1), x.c.Context.Cloud)
		for i, d := range list {
			for _, name := range append([]string{x.there, "Zzz"}, badNames()...) {
				for k, q := range append([]int{1, math.MaxInt32}, badQtys()...) {
					ofAdd, ofSet := x.putErrors(i < 2, name == x.there, name == "Zzz", k < 2)
					a, err := Add(x.c, d, name, q)
					if err != ofAdd || err != api.OK && !alike(a, api.Cart{}) {
						t.Fatal("Add", x.there, len(x.c.Items), x.never, d, name, q, err, ofAdd)
					}
					s, err := Set(x.c, d, name, q)
					if err != ofSet || err != api.OK && !alike(s, api.Cart{}) {
						t.Fatal("Set", x.there, len(x.c.Items), x.never, d, name, q, err, ofSet)
					}
				}
			}
		}
	}
}

// P12.2: the same for Remove and Clear, which the number of items and the greatest time do not matter for.
func TestRemoveErrors(t *testing.T) {
	for _, x := range errorCarts() {
		for _, name := range append([]string{x.there, "Zzz"}, badNames()...) {
			want := api.OK
			switch {
			case x.bad || name != x.there && name != "Zzz":
				want = api.ErrArg
			case name == "Zzz":
				want = api.ErrNone
			}
			if d, err := Remove(x.c, name); err != want || err != api.OK && !alike(d, api.Cart{}) {
				t.Fatal(x.there, name, err)
			}
		}
		d, err := Clear(x.c)
		if x.bad && (err != api.ErrArg || !alike(d, api.Cart{})) || !x.bad && (err != api.OK || !alike(d, with(plus(api.Context{}, dotsOf(all(x.c))...)))) {
			t.Fatal(x.there, d, err)
		}
	}
}

// P12.1: how many items a cart may have before another one comes: with one item less than api.MaxItems, with as many and with more, for an item in front, in the middle, behind and not there.
func TestMaxItems(t *testing.T) {
	for _, n := range []int{0, 1, 2, 254, 255, 256, 257, 300, 1000} {
		c := many(n)
		for _, name := range []string{"A", "Item 1000", "Item 1000 ", "Item 1000 a", "Item 1200", "Item 1254", "Item 1255", "Item 1256", "Zzz"} {
			for _, op := range ops {
				hold(t, c, change{op, at(1, 1+n), name, 4})
				hold(t, c, change{op, at(2, 9), name, 4})
			}
			want := api.OK
			switch there := slices.Contains(cart.Names(c), name); {
			case name == "Item 1000 ":
				want = api.ErrArg
			case !there && n >= 256:
				want = api.ErrTooMany
			}
			if _, err := Add(c, at(2, 9), name, 4); err != want {
				t.Error(n, name, err)
			}
		}
	}
	// The 256th item comes, and the 257th one does not; then one goes, and there is room again; what other replicas have added does not count until it is there.
	c := many(255)
	c = joined(t, c, made(t, c, change{api.OpAdd, at(2, 1), "New", 1}))
	if _, err := Add(c, at(2, 2), "Newer", 1); err != api.ErrTooMany || len(c.Items) != 256 {
		t.Error(err)
	}
	c = joined(t, c, made(t, c, change{op: api.OpRemove, name: "Item 1007"}))
	next := joined(t, c, made(t, c, change{api.OpAdd, at(2, 2), "Newer", 1}), made(t, c, change{api.OpAdd, at(3, 1), "Newest", 1}))
	if _, err := Add(next, at(2, 3), "Zzz", 1); err != api.ErrTooMany || len(next.Items) != 257 {
		t.Error(err)
	}
	hold(t, next, change{api.OpAdd, at(2, 3), "Newest", 7})
}

// P12.1: the greatest time, the one before it and some others, at each place of a cart, also in the item that gets the quantity.
func TestTimes(t *testing.T) {
	for _, time := range []uint64{1, 2, 10, 11, 1<<32 - 1, 1 << 32, 1<<63 - 1, 1 << 63, math.MaxUint64 - 1, math.MaxUint64} {
		for i, x := range full().Items {
			for k := range x.Marks {
				c := full()
				c.Items[i].Marks[k].Time = time
				for _, name := range []string{"Nut", "Oil", "Tea", "Ale", "Pie", "Zzz"} {
					for _, op := range ops {
						hold(t, c, change{op, at(1, 3), name, 4})
					}
					d, err := Add(c, at(1, 3), name, 4)
					switch want, more := timeOf(c); {
					case !more && (err != api.ErrExhausted || !alike(d, api.Cart{})):
						t.Error(c, name, d, err)
					case more && (err != api.OK || d.Items[0].Marks[0].Time != want):
						t.Error(c, name, d, err)
					}
				}
			}
		}
	}
	// A new mark is newer than all others of the cart, whoever has made them.
	c := with(con(1, 65535, 1), item("Tea", mark(65535, 1, 9, 1<<40)))
	next := joined(t, c, made(t, c, change{api.OpSet, at(1, 1), "Tea", 1}), with(con(0, 7, 7), item("Tea", mark(7, 7, 7, 1<<40))))
	if q, err := cart.Qty(next, "Tea"); q != 1 || err != api.OK {
		t.Error(next, q, err)
	}
}

// P12.1 and P12.2: each byte in names, in front, inside and behind, and each length, of an item that is there and that is not.
func TestNames(t *testing.T) {
	var list []string
	for b := range 256 {
		s := string([]byte{byte(b)})
		list = append(list, s, s+"Tea", "Te"+s+"a", "Te "+s+"a", "Tea"+s)
	}
	for n := range 70 {
		list = append(list, strings.Repeat("t", n), strings.Repeat("a b", n/3))
	}
	for _, name := range slices.Concat(list, badNames(), []string{"nut", "NUT", "Nu", "Nuts", "Oil", "Te"}) {
		c := full()
		for _, op := range ops {
			hold(t, c, change{op, at(2, 5), name, 3})
		}
		if !isName(name) || slices.Contains(cart.Names(c), name) {
			continue
		}
		c = joined(t, c, made(t, c, change{api.OpAdd, at(2, 5), name, 3}))
		for _, op := range ops {
			hold(t, c, change{op, at(2, 6), name, 3})
		}
	}
}

// P12.1: numbers around the limits of quantities.
func TestQuantities(t *testing.T) {
	for _, q := range append(badQtys(), -2147483648, -2147483647, 1, 2, 3, 255, 256, 65535, 65536, 2147483645, 2147483646, 2147483647, 2147483649, 4294967295, 4294967296) {
		for _, name := range []string{"Nut", "Tea", "Zzz"} {
			hold(t, full(), change{api.OpAdd, at(2, 5), name, q})
			hold(t, full(), change{api.OpSet, at(2, 5), name, q})
		}
		d, err := Set(full(), at(2, 5), "Tea", q)
		if is := 1 <= q && q <= 2147483647; is != (err == api.OK) || !is && err != api.ErrQty || is && d.Items[0].Marks[0].Qty != q {
			t.Error(q, d, err)
		}
	}
}

// P12.3: dots that are valid and not, in the vector, behind it and in neither, of carts that are valid and not.
func TestFresh(t *testing.T) {
	for _, x := range []struct {
		c     api.Cart
		fresh []api.Dot
		stale []api.Dot
	}{
		{api.Cart{}, dots(1, 1, 1, 9, 65535, 4294967295, 65535, 1, 1, 4294967295), nil},
		{full(), dots(1, 3, 1, 4, 2, 5, 3, 1, 3, 4, 3, 6, 9, 1, 9, 8, 9, 10, 4, 1, 65535, 4294967295), dots(1, 1, 1, 2, 2, 1, 2, 3, 2, 4, 3, 5, 9, 9)},
		{with(full().Context), dots(1, 3, 2, 5, 3, 4, 9, 10), dots(1, 1, 1, 2, 2, 1, 2, 4, 3, 5, 9, 9)},
		{with(con(1, 65535, 4294967294)), dots(1, 4294967294, 65535, 4294967295, 65534, 1), dots(65535, 1, 65535, 4294967294)},
		{with(con(1, 65535, 4294967295)), dots(1, 4294967295), dots(65535, 1, 65535, 4294967295)},
		{with(con(0, 65535, 4294967295)), dots(65535, 1, 65535, 4294967294), dots(65535, 4294967295)},
	} {
		for _, d := range x.fresh {
			if !Fresh(x.c, d) {
				t.Error(x.c, d)
			}
		}
		for _, d := range append(badDots(), x.stale...) {
			if Fresh(x.c, d) {
				t.Error(x.c, d)
			}
			for _, op := range ops[:2] {
				if v, err := (change{op, d, "Tea", 1}).of(x.c); err != api.ErrArg || !alike(v, api.Cart{}) {
					t.Error(x.c, d, v, err)
				}
			}
		}
	}
	for _, c := range grid(nil, nil, dots(1, 1, 1, 2, 1, 3, 2, 2, 1, 4)...) {
		for replica := -1; replica <= 3; replica++ {
			for counter := -1; counter <= 6; counter++ {
				if d := at(replica, counter); Fresh(c, d) != isFresh(c, d) {
					t.Error(c, d)
				}
			}
		}
	}
	for _, bad := range badCarts() {
		for _, d := range append(badDots(), dots(1, 1, 1, 3, 2, 5, 3, 5, 50, 1, 50, 50, 65535, 4294967295)...) {
			if Fresh(bad, d) {
				t.Error(bad, d)
			}
		}
	}
}

// P12.3: carts without dots and items, with one of both, and with something that is not valid.
func TestEmpty(t *testing.T) {
	none := api.Cart{Context: api.Context{Vector: api.Vector{}, Cloud: []api.Dot{}}, Items: []api.Item{}}
	for i, c := range []api.Cart{{}, none, with(con(0)), with(api.Context{Vector: full().Context.Vector[:0], Cloud: full().Context.Cloud[:0]}, full().Items[:0]...)} {
		if !Empty(c) {
			t.Error(i, c)
		}
	}
	for i, c := range []api.Cart{
		given(), full(), with(con(1, 1, 1)), with(con(0, 1, 2)), with(con(1, 1, 1, 1, 3)), with(con(1, 1, 1), item("Tea", one)),
		// What is listed is there, whether it is valid or not.
		with(con(0), item("Tea", one)), with(con(0), item("Tea")), with(con(0), api.Item{}), with(con(0, 1, 1)), with(con(2, 2, 1, 1, 1)), with(con(0, 1, 3, 1, 2)), with(con(1, 0, 0)), with(con(0, 0, 0)), with(con(1, 1, 0)), with(con(0, -1, -1)),
	} {
		if Empty(c) {
			t.Error(i, c)
		}
	}
	for _, bad := range badCarts() {
		if Empty(bad) {
			t.Error(bad)
		}
	}
	// Deltas: those of clearing and only those may be empty, and just if there were no items.
	for _, c := range []api.Cart{{}, none, given(), full(), with(con(1, 1, 7, 2, 2)), many(256)} {
		if Empty(made(t, c, change{op: api.OpClear})) != (len(c.Items) == 0) {
			t.Error(c)
		}
		for _, x := range c.Items {
			if Empty(made(t, c, change{op: api.OpRemove, name: x.Name})) || Empty(made(t, c, change{api.OpSet, at(8, 8), x.Name, 1})) {
				t.Error(c, x)
			}
		}
	}
}

// P12.1 to P12.3: carts that are not valid, each for one reason alone, with all else as it should be and with all else wrong, too.
func TestInvalid(t *testing.T) {
	for _, bad := range badCarts() {
		if isCart(bad) {
			t.Fatal(bad)
		}
		for _, op := range ops {
			for _, name := range []string{"Nut", "Tea", "Zzz", "", " "} {
				for _, d := range dots(50, 1, 1, 3, 1, 1, 0, 0) {
					for _, q := range []int{1, 0} {
						if v, err := (change{op, d, name, q}).of(bad); err != api.ErrArg || !alike(v, api.Cart{}) {
							t.Error(bad, op, name, d, q, v, err)
						}
					}
				}
			}
		}
	}
}

// P12.4: two replicas that began with the same cart change it at the same time, each in all ways, and get the delta of the other one: in either order, and with repetitions, both have what neither of them has removed, and what both have made.
func TestTwoReplicas(t *testing.T) {
	names := []string{"a", "b", "c"}
	var calls [2][]change
	for i := range calls {
		calls[i] = append(calls[i], change{op: api.OpClear})
		for _, name := range names {
			calls[i] = append(calls[i], change{api.OpAdd, at(3+i, 1), name, 4 + i}, change{api.OpSet, at(3+i, 1), name, 6 + i}, change{op: api.OpRemove, name: name})
		}
	}
	for _, c := range grid(names[:2], []api.Mark{{Qty: 1, Time: 2}, {Qty: 2, Time: 1}}, dots(1, 1, 2, 1, 1, 2)...) {
		for _, x := range calls[0] {
			d, err := x.of(c)
			if err != api.OK {
				continue
			}
			for _, y := range calls[1] {
				e, err := y.of(c)
				if err != api.OK {
					continue
				}
				want := after(c, x, y)
				first, second := joined(t, joined(t, c, d), e), joined(t, joined(t, c, e), d)
				if !alike(first, want) || !alike(second, want) || !alike(joined(t, e, d, c, e, d, d), want) {
					t.Fatal(c, x, y, d, e, first, second)
				}
				for _, z := range []change{x, y} {
					if z.puts() && !slices.Contains(marksOf(first, z.name), z.made(c)) {
						t.Fatal("not there", c, x, y, first)
					}
				}
				// Of two new marks with the same time that of the greater replica is newer.
				if q, err := cart.Qty(first, x.name); x.puts() && y.puts() && x.name == y.name && (q != y.q || err != api.OK) {
					t.Fatal(c, x, y, first, q, err)
				}
			}
		}
	}
}

// P12.4: three replicas, in all orders, with a cart that has a cloud and several items.
func TestThreeReplicas(t *testing.T) {
	c := full()
	l := []change{{api.OpAdd, at(2, 5), "Tea", 6}, {op: api.OpClear}, {api.OpSet, at(7, 3), "Oil", 2}}
	want := with(con(2, 1, 2, 2, 5, 7, 3, 3, 5, 9, 9), item("Oil", mark(7, 3, 2, 10)), item("Tea", mark(2, 5, 6, 10)))
	if !alike(after(c, l...), want) {
		t.Fatal(after(c, l...))
	}
	for _, order := range [][]int{{0, 1, 2}, {0, 2, 1}, {1, 0, 2}, {1, 2, 0}, {2, 0, 1}, {2, 1, 0}} {
		next := c
		for _, i := range order {
			next = joined(t, next, made(t, c, l[i]))
		}
		if !alike(next, want) {
			t.Error(order, next)
		}
	}
}

// node is a replica that has a cart, and how many dots it has made.
type node struct {
	cart api.Cart
	made int
}

// step makes a change, chosen at random, and returns its delta: the quantities are other ones each time.
func (n *node) step(t *testing.T, r *rand.Rand, replica, q int) api.Cart {
	t.Helper()
	x := change{ops[min(r.Intn(16)/5, 3)], at(replica, n.made+1), "Item " + strconv.Itoa(r.Intn(4)), q}
	hold(t, n.cart, x)
	d, err := x.of(n.cart)
	if err == api.OK && x.puts() {
		n.made++
	}
	n.cart = joined(t, n.cart, d)
	return d
}

// P12.4 (P0.4): replicas that change a cart in any way, while deltas of others come in any order and any number of times, have all the same in the end: what was made, and not removed by one that had it.
func TestConverge(t *testing.T) {
	r := rand.New(rand.NewSource(12))
	for range 60 {
		nodes := make([]node, 4)
		var deltas []api.Cart
		for i := range 60 {
			n := r.Intn(len(nodes))
			if len(deltas) > 0 && r.Intn(3) == 0 {
				nodes[n].cart = joined(t, nodes[n].cart, deltas[r.Intn(len(deltas))])
				continue
			}
			deltas = append(deltas, nodes[n].step(t, r, 1+n, 1+i))
		}
		// What is left: the marks of all deltas whose dots no other delta has in its context.
		var want []api.Mark
		for i, d := range deltas {
			for _, m := range all(d) {
				others := slices.Concat(deltas[:i], deltas[i+1:])
				if !slices.ContainsFunc(others, func(o api.Cart) bool { return in(o.Context, m.Dot) }) {
					want = append(want, m)
				}
			}
		}
		end := joined(t, deltas...)
		have := all(end)
		slices.SortFunc(want, func(m, o api.Mark) int { return byDots(m.Dot, o.Dot) })
		slices.SortFunc(have, func(m, o api.Mark) int { return byDots(m.Dot, o.Dot) })
		if !slices.Equal(have, want) {
			t.Fatal(have, want)
		}
		for k, n := range nodes {
			for _, i := range slices.Concat(r.Perm(len(deltas)), r.Perm(len(deltas))[:len(deltas)/2]) {
				n.cart = joined(t, n.cart, deltas[i])
			}
			if !alike(n.cart, end) {
				t.Fatal(k, n.cart, end)
			}
		}
	}
}

// P1: many items, many marks of one item, and a vector with all replicas.
func TestLong(t *testing.T) {
	const size = 1 << 15
	c := many(size)
	for _, x := range []change{{api.OpSet, at(1, size+1), "Item 1500", 2}, {api.OpAdd, at(2, 1), "Item 33767", 2}, {api.OpAdd, at(2, 1), "Zzz", 2}, {op: api.OpRemove, name: "Item 1000"}, {op: api.OpClear}} {
		d, err := x.of(c)
		if wrong := x.wrong(c); err != wrong || err == api.OK && !alike(d, x.want(c)) {
			t.Error(x, err)
		}
	}
	tea := item("Tea")
	var wide api.Cart
	for replica := 1; replica <= api.MaxReplica; replica++ {
		wide.Context.Vector = append(wide.Context.Vector, at(replica, 1))
		tea.Marks = append(tea.Marks, mark(replica, 1, replica, uint64(1+replica%7)))
	}
	wide.Items = []api.Item{tea}
	d, err := Set(wide, at(7, 2), "Tea", 3)
	want := deep(with(wide.Context, item("Tea", mark(7, 2, 3, 8))))
	want.Context.Vector[6].Counter = 2
	if !alike(d, want) || err != api.OK {
		t.Error(err)
	}
	for _, x := range []change{{op: api.OpRemove, name: "Tea"}, {op: api.OpClear}} {
		if d, err := x.of(wide); !alike(d, with(wide.Context)) || err != api.OK {
			t.Error(x, err)
		}
	}
	wide.Items[0].Marks[api.MaxReplica-1].Qty = 0
	for _, op := range ops {
		if d, err := (change{op, at(7, 2), "Tea", 3}).of(wide); !alike(d, api.Cart{}) || err != api.ErrArg {
			t.Error("the last mark is not valid", op, err)
		}
	}
	if Fresh(wide, at(7, 2)) || Empty(wide) {
		t.Error("the last mark is not valid")
	}
}

// span is the memory of a slice, up to its capacity, or of a string.
type span struct{ from, to uintptr }

func sliceSpan[T any](l []T) span {
	var one T
	from := uintptr(unsafe.Pointer(unsafe.SliceData(l)))
	return span{from, from + uintptr(cap(l))*unsafe.Sizeof(one)}
}
func stringSpan(s string) span {
	from := uintptr(unsafe.Pointer(unsafe.StringData(s)))
	return span{from, from + uintptr(len(s))}
}

// overlap is whether two spans share memory, spans are those of a cart.
func overlap(a, b span) bool { return max(a.from, b.from) < min(a.to, b.to) }
func spans(c api.Cart) []span {
	out := []span{sliceSpan(c.Context.Vector), sliceSpan(c.Context.Cloud), sliceSpan(c.Items)}
	for _, x := range c.Items {
		out = append(out, stringSpan(x.Name), sliceSpan(x.Marks))
	}
	return out
}

// calledBy are names that are given to calls, each in memory of its own.
func calledBy() []string { return []string{strings.Clone("Tea"), strings.Clone("Oil"), ""} }

// results are the carts that calls with a cart and some names return, each call made twice.
func results(c api.Cart, called []string) []api.Cart {
	var out []api.Cart
	for range 2 {
		for _, op := range ops {
			for _, name := range called {
				d, _ := (change{op, at(2, 5), name, 3}).of(c)
				out = append(out, d)
			}
		}
		Empty(c)
		Fresh(c, at(2, 5))
	}
	return out
}

// someCarts are carts, some of which are not valid, with dots, marks and items behind the ends of their lists.
func someCarts() []api.Cart {
	out := []api.Cart{{}, full(), given(), with(con(2, 1, 2, 2, 4, 9, 9)), with(con(2, 2, 4, 3, 6, 9, 9), nut, item("Pie", mark(2, 3, 1, 1)), item("Tea", mark(2, 2, 5, 5), mark(3, 3, 6, 6))), with(con(2, 1, 2, 2, 4, 9, 9), tea, nut), with(con(1, 1, 1, 1, 2), tea)}
	for i, c := range out {
		c = deep(c)
		for k, x := range c.Items {
			c.Items[k].Marks = append(x.Marks, mark(8, 8, 8, 8))[:len(x.Marks)]
		}
		c.Context.Vector = append(c.Context.Vector, dots(8, 8)...)[:len(c.Context.Vector)]
		c.Context.Cloud = append(c.Context.Cloud, dots(8, 8)...)[:len(c.Context.Cloud)]
		c.Items = append(c.Items, item("Behind", mark(8, 8, 8, 8)))[:len(c.Items)]
		out[i] = c
	}
	return out
}

// whole is a cart with what is behind the ends of its lists.
func whole(c api.Cart) api.Cart {
	c.Context.Vector, c.Context.Cloud = c.Context.Vector[:len(c.Context.Vector)+1], c.Context.Cloud[:len(c.Context.Cloud)+1]
	c.Items = slices.Clone(c.Items[:len(c.Items)+1])
	for k, x := range c.Items[:len(c.Items)-1] {
		c.Items[k].Marks = x.Marks[:len(x.Marks)+1]
	}
	return c
}

// spoil changes all that a cart has, also behind the ends of its lists.
func spoil(c api.Cart) {
	bad := mark(-9, -9, -9, 9)
	for _, l := range [][]api.Dot{c.Context.Vector, c.Context.Cloud} {
		for i := range l[:cap(l)] {
			l[:cap(l)][i] = bad.Dot
		}
	}
	for _, x := range c.Items {
		for i := range x.Marks[:cap(x.Marks)] {
			x.Marks[:cap(x.Marks)][i] = bad
		}
	}
	for i := range c.Items[:cap(c.Items)] {
		c.Items[:cap(c.Items)][i] = item("spoilt", bad)
	}
}

// The rules: no call changes its arguments, not even behind the ends of their lists, and equal calls have equal results.
func TestArgumentsStay(t *testing.T) {
	for _, c := range someCarts() {
		before := deep(whole(c))
		list := results(c, calledBy())
		if !alike(whole(c), before) {
			t.Error(before, whole(c))
		}
		if half := len(list) / 2; !slices.EqualFunc(list[:half], list[half:], alike) {
			t.Error(c, list)
		}
	}
}

// The rules: whatever is changed in a result, the arguments and the other results stay what they were; whatever is changed in an argument, the results do.
func TestNewMemory(t *testing.T) {
	for _, c := range someCarts() {
		before := deep(whole(c))
		list := results(c, calledBy())
		var kept []api.Cart
		for _, d := range list {
			kept = append(kept, deep(d))
		}
		for n, d := range list {
			spoil(d)
			if !slices.EqualFunc(list[n+1:], kept[n+1:], alike) || !alike(whole(c), before) {
				t.Fatal(before, n)
			}
		}
		list = results(c, calledBy())
		spoil(c)
		if !slices.EqualFunc(list, kept, alike) {
			t.Error(before, list)
		}
	}
}

// The rules: no two lists or names of arguments and results share memory, not even behind their ends.
func TestNothingShared(t *testing.T) {
	for _, c := range someCarts() {
		called := calledBy()
		given := spans(c)
		for _, name := range called {
			given = append(given, stringSpan(name))
		}
		var list []span
		for _, d := range results(c, called) {
			list = append(list, spans(d)...)
		}
		for n, x := range list {
			if slices.ContainsFunc(slices.Concat(given, list[n+1:]), func(y span) bool { return overlap(x, y) }) {
				t.Fatal(c, n)
			}
		}
	}
}

// The rules: what is appended to one part of a result does not change the other parts.
func TestPartsOfResults(t *testing.T) {
	for _, x := range []change{{api.OpAdd, at(3, 7), "Oil", 3}, {api.OpSet, at(7, 7), "Tea", 3}, {op: api.OpClear}} {
		d := made(t, full(), x)
		want := deep(d)
		for i := range d.Items {
			_ = append(d.Items[i].Marks, mark(8, 8, 8, 8))
		}
		_ = append(d.Items, item("more", mark(8, 8, 8, 8)))
		_ = append(d.Context.Vector, dots(8, 8, 8, 9)...)
		_ = append(d.Context.Cloud, dots(8, 8, 8, 9)...)
		if !alike(d, want) {
			t.Error(d, want)
		}
	}
}
