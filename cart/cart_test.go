package cart

import (
	"maps"
	"math"
	"math/rand"
	"regexp"
	"slices"
	"strconv"
	"strings"
	"testing"
	"unsafe"

	"pannier/api"
)

// mark returns the mark of a dot with a quantity and a time, item an item, and of a list of items.
func mark(replica, counter, q int, time uint64) api.Mark {
	return api.Mark{Dot: api.Dot{Replica: replica, Counter: counter}, Qty: q, Time: time}
}
func item(name string, marks ...api.Mark) api.Item { return api.Item{Name: name, Marks: marks} }
func of(l ...api.Item) []api.Item                  { return l }

// dots returns the dots of pairs of a replica and a counter.
func dots(l ...int) []api.Dot {
	var out []api.Dot
	for i := 0; i+1 < len(l); i += 2 {
		out = append(out, api.Dot{Replica: l[i], Counter: l[i+1]})
	}
	return out
}

// con returns the context whose vector has the first n of some dots, and whose cloud the others.
func con(n int, l ...int) api.Context {
	d := dots(l...)
	return api.Context{Vector: d[:n], Cloud: d[n:]}
}

func with(seen api.Context, l ...api.Item) api.Cart { return api.Cart{Context: seen, Items: l} }

// lists are all lists of at most some things out of a few.
func lists[T any](most int, few ...T) [][]T {
	out := [][]T{nil}
	for from, n := 0, 0; n < most; n++ {
		to := len(out)
		for _, l := range out[from:to] {
			for _, x := range few {
				out = append(out, append(slices.Clone(l), x))
			}
		}
		from = to
	}
	return out
}

// orders are all lists of the things of a list, each of them in another order.
func orders[T any](l []T) [][]T {
	if len(l) == 0 {
		return [][]T{nil}
	}
	var out [][]T
	for i := range l {
		rest := slices.Delete(slices.Clone(l), i, i+1)
		for _, o := range orders(rest) {
			out = append(out, append(o, l[i]))
		}
	}
	return out
}

// alike is whether two carts are equal in all parts, element by element, by the definition.
func alike(a, b api.Cart) bool {
	return slices.Equal(a.Context.Vector, b.Context.Vector) && slices.Equal(a.Context.Cloud, b.Context.Cloud) &&
		slices.EqualFunc(a.Items, b.Items, func(x, y api.Item) bool { return x.Name == y.Name && slices.Equal(x.Marks, y.Marks) })
}

// deep returns a cart that shares no memory with another one, so that it stays what it was.
func deep(c api.Cart) api.Cart {
	out := with(api.Context{Vector: append(api.Vector{}, c.Context.Vector...), Cloud: append([]api.Dot{}, c.Context.Cloud...)})
	for _, x := range c.Items {
		out.Items = append(out.Items, item(strings.Clone(x.Name), append([]api.Mark{}, x.Marks...)...))
	}
	return out
}

// isDot and isMark are whether a dot and a mark are valid, less whether a dot comes before another one, by the definitions.
func isDot(d api.Dot) bool {
	return d.Replica > 0 && d.Replica < 65536 && d.Counter > 0 && d.Counter < 1<<32
}
func isMark(m api.Mark) bool { return isDot(m.Dot) && m.Qty > 0 && m.Qty < 1<<31 && m.Time > 0 }
func less(a, b api.Dot) bool {
	return a.Counter < b.Counter || a.Counter == b.Counter && a.Replica < b.Replica
}

// words are words with single spaces between them.
var words = regexp.MustCompile(`^[!-~]+( [!-~]+)*$`)

// isItem is whether an item is valid, but for the order of its marks, where also equal dots are taken.
func isItem(x api.Item) bool {
	return len(x.Name) <= 64 && words.MatchString(x.Name) && len(x.Marks) > 0 && !slices.ContainsFunc(x.Marks, func(m api.Mark) bool { return !isMark(m) })
}

// isContext is whether a context is valid, isCompact whether it is compact, too, if it is valid, by the definitions.
func isContext(c api.Context) bool {
	for i, d := range c.Vector {
		if !isDot(d) || i > 0 && c.Vector[i-1].Replica >= d.Replica {
			return false
		}
	}
	for i, d := range c.Cloud {
		if !isDot(d) || i > 0 && !less(c.Cloud[i-1], d) {
			return false
		}
	}
	return true
}
func isCompact(c api.Context) bool {
	return !slices.ContainsFunc(c.Cloud, func(d api.Dot) bool { return d.Counter <= last(c, d.Replica)+1 })
}

// last is the counter of a replica in the vector of a valid context, and in whether a valid dot is in it.
func last(c api.Context, replica int) int {
	for _, d := range c.Vector {
		if d.Replica == replica {
			return d.Counter
		}
	}
	return 0
}
func in(c api.Context, d api.Dot) bool {
	return d.Counter <= last(c, d.Replica) || slices.Contains(c.Cloud, d)
}

// isLoose is whether a cart is loose, by the definition: of each pair of items the names, and of each pair of marks the dots.
func isLoose(c api.Cart) bool {
	var seen []api.Dot
	for i, x := range c.Items {
		if !isItem(x) || slices.ContainsFunc(c.Items[i+1:], func(y api.Item) bool { return x.Name == y.Name }) {
			return false
		}
		for _, m := range x.Marks {
			if slices.Contains(seen, m.Dot) {
				return false
			}
			seen = append(seen, m.Dot)
		}
	}
	return isContext(c.Context)
}

// isCart is whether a cart is valid, by the definition.
func isCart(c api.Cart) bool {
	if !isLoose(c) || !isCompact(c.Context) {
		return false
	}
	for i, x := range c.Items {
		if i > 0 && c.Items[i-1].Name >= x.Name {
			return false
		}
		for k, m := range x.Marks {
			if k > 0 && !less(x.Marks[k-1].Dot, m.Dot) || !in(c.Context, m.Dot) {
				return false
			}
		}
	}
	return true
}

// added is a valid context that has got some valid dots, and was made compact, as the definition does it, step by step.
func added(c api.Context, l ...api.Dot) api.Context {
	seen := map[int]int{}
	for _, v := range c.Vector {
		seen[v.Replica] = v.Counter
	}
	cloud := slices.Concat(c.Cloud, l)
	goes := func(d api.Dot) bool { return d.Counter <= seen[d.Replica]+1 }
	for at := slices.IndexFunc(cloud, goes); at >= 0; at = slices.IndexFunc(cloud, goes) {
		d := cloud[at]
		seen[d.Replica] = max(seen[d.Replica], d.Counter)
		cloud = slices.Delete(cloud, at, at+1)
	}
	var out api.Context
	for _, replica := range slices.Sorted(maps.Keys(seen)) {
		out.Vector = append(out.Vector, api.Dot{Replica: replica, Counter: seen[replica]})
	}
	out.Cloud = setOf(cloud)
	return out
}

// setOf is the set of a list: always the first one of the dots that are left.
func setOf(left []api.Dot) []api.Dot {
	var out []api.Dot
	for len(left) > 0 {
		first := left[0]
		for _, d := range left {
			if less(d, first) {
				first = d
			}
		}
		out = append(out, first)
		left = slices.DeleteFunc(slices.Clone(left), func(d api.Dot) bool { return d == first })
	}
	return out
}

// canonOf is what Canon returns, by the definition.
func canonOf(c api.Cart) (api.Cart, api.Errno) {
	if !isLoose(c) {
		return api.Cart{}, api.ErrArg
	}
	out := deep(c)
	var made []api.Dot
	for _, x := range out.Items {
		for _, m := range x.Marks {
			made = append(made, m.Dot)
		}
		slices.SortFunc(x.Marks, func(a, b api.Mark) int {
			if less(a.Dot, b.Dot) {
				return -1
			}
			return 1
		})
	}
	out.Context = added(out.Context, made...)
	slices.SortFunc(out.Items, func(x, y api.Item) int { return strings.Compare(x.Name, y.Name) })
	return out, api.OK
}

// newest is the quantity of that mark of a valid item that has the greatest time, and of those the greatest replica, and of those the greatest counter.
func newest(x api.Item) int {
	most := x.Marks[0]
	for _, m := range x.Marks {
		if m.Time > most.Time || m.Time == most.Time && (m.Dot.Replica > most.Dot.Replica || m.Dot.Replica == most.Dot.Replica && m.Dot.Counter > most.Dot.Counter) {
			most = m
		}
	}
	return most.Qty
}

// looks are what Names, Units and Time, and, for a name, Qty and Dots return, by the definitions.
type looks struct {
	names []string
	units int
	time  uint64
	bad   api.Errno
	qty   int
	none  api.Errno
	dots  []api.Dot
}

func looksOf(c api.Cart, name string) looks {
	if !isCart(c) {
		return looks{bad: api.ErrArg, none: api.ErrArg}
	}
	out := looks{none: api.ErrNone, time: 1}
	for _, x := range c.Items {
		out.names = append(out.names, x.Name)
		out.units += newest(x)
		if x.Name == name {
			out.qty, out.none = newest(x), api.OK
		}
		for _, m := range x.Marks {
			switch {
			case m.Time == math.MaxUint64:
				out.bad = api.ErrExhausted
			case m.Time >= out.time:
				out.time = m.Time + 1
			}
			if name == "" || x.Name == name {
				out.dots = append(out.dots, m.Dot)
			}
		}
	}
	if out.bad != api.OK {
		out.time = 0
	}
	out.dots = setOf(out.dots)
	return out
}

// look makes the calls, and same is whether what they have returned is the same.
func look(c api.Cart, name string) looks {
	out := looks{names: Names(c), units: Units(c), dots: Dots(c, name)}
	out.time, out.bad = Time(c)
	out.qty, out.none = Qty(c, name)
	return out
}
func same(a, b looks) bool {
	return slices.Equal(a.names, b.names) && a.units == b.units && a.time == b.time && a.bad == b.bad && a.qty == b.qty && a.none == b.none && slices.Equal(a.dots, b.dots)
}

// Some valid items, which go together, and a cart of them.
var (
	nut = item("Nut", mark(2, 1, 7, 4))
	tea = item("Tea", mark(1, 1, 5, 3), mark(1, 2, 2, 9))
	oil = item("Oil", mark(3, 5, 1, 1))
)

func full() api.Cart { return deep(with(con(2, 1, 2, 2, 4, 3, 5, 9, 9), nut, oil, tea)) }

// fewContexts are contexts: compact ones, those that are valid but not compact, and those that are not valid.
func fewContexts() []api.Context {
	return []api.Context{
		con(0), con(1, 1, 1), con(1, 1, 2), con(2, 1, 1, 2, 1), con(2, 1, 3, 2, 2), con(0, 1, 2), con(0, 1, 2, 2, 2), con(1, 2, 1, 1, 2, 1, 3), con(1, 1, 1, 1, 3), con(2, 1, 2, 9, 9, 3, 3),
		con(0, 1, 1), con(1, 1, 1, 2, 1), con(1, 1, 2, 1, 2), con(1, 1, 1, 1, 2), con(2, 1, 3, 2, 2, 1, 1),
		con(2, 2, 2, 1, 3), con(2, 1, 2, 1, 3), con(1, 0, 1), con(0, 2, 2, 1, 2), con(0, 1, 2, 1, 2), con(2, 1, 3, 2, 2, 1, 65537, 65536, 65538), con(2, 1, 3, 2, 2, 1, 5, 1, 0),
	}
}

// fewItems are items of which some go together: names that are equal or begin with each other, dots that are shared, marks that are not in order, and items that are not valid.
func fewItems() []api.Item {
	return []api.Item{
		item("a", mark(1, 1, 5, 3)), item("a", mark(2, 1, 9, 9), mark(1, 2, 2, 9)), item("a", mark(1, 2, 2, 9), mark(2, 1, 9, 9)), item("ab", mark(2, 2, 1, 1)), item("a b", mark(1, 1, 7, math.MaxUint64)), item("B", mark(1, 3, 1, math.MaxUint64-1)), item("b", mark(2, 1, 7, 4)),
		item("c"), item("", mark(1, 2, 5, 5)), item("c", mark(1, 2, 0, 1)), item("c", mark(1, 3, 5, 3), mark(1, 3, 6, 4)), item("c", mark(2, 2, 5, 3), mark(2, 1, 6, 4)), item("c", mark(1, 1, 5, 3), mark(1, 2, 5, 3), mark(1, 3, 5, 3)),
	}
}

// fewCarts calls a function with all carts of a few contexts and short lists of a few items.
func fewCarts(f func(c api.Cart)) {
	for _, l := range lists(3, fewItems()...) {
		for _, seen := range fewContexts() {
			f(with(seen, l...))
		}
	}
}

// badDots are dots that are not valid, badMarks marks that are not, badContexts contexts that are not, and badItems items that are not valid whatever the order of their marks is.
func badDots() []api.Dot {
	return dots(0, 7, 7, 0, -1, 7, 7, -1, 65536, 7, 7, 4294967296, math.MaxInt, 7, 7, math.MaxInt, math.MinInt, 7, 7, math.MinInt, 0, 0)
}
func badMarks() []api.Mark {
	out := []api.Mark{{}, mark(7, 7, 0, 7), mark(7, 7, 7, 0), mark(7, 7, -1, 7), mark(7, 7, 2147483648, 7), mark(7, 7, math.MaxInt, 7), mark(7, 7, math.MinInt, 7)}
	for _, d := range badDots() {
		out = append(out, api.Mark{Dot: d, Qty: 7, Time: 7})
	}
	return out
}
func badContexts() []api.Context {
	out := []api.Context{
		con(2, 2, 4, 1, 2), con(2, 1, 2, 1, 2), con(2, 1, 2, 1, 3), con(2, 1, 3, 1, 2), con(3, 1, 2, 3, 5, 2, 4),
		con(2, 1, 2, 2, 4, 9, 9, 3, 5), con(2, 1, 2, 2, 4, 3, 5, 3, 5), con(2, 1, 2, 2, 4, 5, 5, 3, 5), con(0, 1, 2, 1, 1), con(2, 1, 2, 2, 4, 3, 5, 3, 5, 9, 9),
	}
	for _, bad := range badDots() {
		seen := con(2, 1, 2, 2, 4, 3, 5)
		out = append(out, api.Context{Vector: slices.Insert(slices.Clone(seen.Vector), 0, bad), Cloud: seen.Cloud}, api.Context{Vector: append(slices.Clone(seen.Vector), bad), Cloud: seen.Cloud},
			api.Context{Vector: seen.Vector, Cloud: slices.Insert(slices.Clone(seen.Cloud), 0, bad)}, api.Context{Vector: seen.Vector, Cloud: append(slices.Clone(seen.Cloud), bad)})
	}
	return out
}
func badItems() []api.Item {
	one, two := mark(7, 7, 7, 7), mark(7, 8, 7, 7)
	var out []api.Item
	for _, name := range []string{"", " ", " Pie", "Pie ", "Red  pie", "Pie\n", "Red\tpie", "Pi\u00e9", "\xff", "\x00", "\x7f", strings.Repeat("p", 65)} {
		out = append(out, item(name, one))
	}
	out = append(out, item("Pie"), item("Pie", one, one), item("Pie", one, mark(7, 7, 8, 8)), item("Pie", one, two, one), item("Pie", two, one, two), item("Pie", one, two, mark(8, 8, 8, 8), two))
	for _, bad := range badMarks() {
		out = append(out, item("Pie", bad), item("Pie", bad, two), item("Pie", two, bad), item("Pie", one, bad, two))
	}
	return out
}

// notLoose are carts that are not loose, nearly all of them for one reason alone.
func notLoose() []api.Cart {
	var out []api.Cart
	for _, seen := range badContexts() {
		out = append(out, with(seen), with(seen, nut, oil, tea), with(seen, tea, nut))
	}
	seen := added(full().Context, dots(7, 7, 7, 8)...)
	for _, bad := range badItems() {
		for _, good := range [][]api.Item{nil, of(nut, oil), of(nut, oil, tea)} {
			for at := range len(good) + 1 {
				out = append(out, with(seen, slices.Insert(slices.Clone(good), at, bad)...))
			}
		}
	}
	for _, more := range []api.Item{
		// A name that is there twice, with marks of its own.
		item("Nut", mark(7, 7, 7, 7)), item("Oil", mark(7, 7, 7, 7)), item("Tea", mark(7, 7, 7, 7), mark(7, 8, 7, 7)),
		// A dot that is there twice, in two items, with equal marks and with others.
		item("Pie", nut.Marks[0]), item("Pie", mark(2, 1, 1, 1)), item("Pie", tea.Marks[1]), item("Pie", mark(3, 5, 8, 8)), item("Ale", mark(1, 1, 8, 8), mark(7, 7, 7, 7)), item("Zoo", mark(7, 7, 7, 7), mark(1, 2, 8, 8)),
	} {
		for _, o := range orders(of(nut, oil, tea, more)) {
			out = append(out, with(seen, o...))
		}
	}
	return out
}

// notValid are further carts that are not valid, each of them for one reason alone; all of them are loose.
func notValid() []api.Cart {
	var out []api.Cart
	// A dot of a mark is not in the context.
	for _, seen := range []api.Context{con(0), con(2, 1, 1, 2, 4, 3, 5), con(1, 1, 2, 3, 5), con(1, 2, 4, 3, 5), con(2, 1, 2, 2, 4), con(2, 1, 2, 2, 4, 3, 4), con(2, 1, 2, 2, 4, 4, 5), con(3, 1, 2, 2, 4, 3, 3, 3, 6), con(1, 2, 4, 1, 2, 3, 5)} {
		out = append(out, with(seen, nut, oil, tea))
	}
	// The context is not compact: a dot of the cloud is in the vector, or is the next one.
	for _, seen := range []api.Context{con(2, 1, 2, 2, 4, 1, 1, 3, 5), con(2, 1, 2, 2, 4, 1, 2, 3, 5), con(2, 1, 2, 2, 4, 2, 4, 3, 5), con(2, 1, 2, 2, 4, 1, 3, 3, 5), con(2, 1, 2, 2, 4, 2, 5, 3, 5), con(2, 1, 2, 2, 4, 3, 1, 3, 5), con(2, 1, 2, 2, 4, 9, 1, 3, 5), con(1, 2, 4, 1, 1, 1, 2, 3, 5), con(3, 1, 2, 2, 4, 3, 5, 3, 5)} {
		out = append(out, with(seen), with(seen, nut, oil, tea))
	}
	// The items, or the marks of one, are not in order.
	for _, o := range orders(of(nut, oil, tea)) {
		if !slices.IsSortedFunc(o, func(x, y api.Item) int { return strings.Compare(x.Name, y.Name) }) {
			out = append(out, with(full().Context, o...))
		}
	}
	return append(out, with(full().Context, nut, oil, item("Tea", tea.Marks[1], tea.Marks[0])), with(con(3, 1, 9, 2, 9, 3, 9), item("Tea", mark(2, 1, 1, 1), mark(1, 1, 1, 1))), with(con(3, 1, 9, 2, 9, 3, 9), item("Tea", mark(1, 1, 1, 1), mark(1, 3, 1, 1), mark(1, 2, 1, 1))))
}

// P10.1 to P10.4: the examples of the chapter.
func TestExamples(t *testing.T) {
	x := with(con(2, 1, 1, 2, 1), nut, item("Tea", tea.Marks[0]))
	y := with(con(0), item("Tea", tea.Marks[1], tea.Marks[0]), nut)
	if !Valid(x) || Valid(y) || !Valid(api.Cart{}) || Valid(with(con(1, 1, 1), x.Items...)) || Valid(with(con(1, 1, 1, 2, 1), x.Items...)) {
		t.Error("Valid")
	}
	z, err := Canon(y)
	if !alike(z, with(con(2, 1, 2, 2, 1), nut, tea)) || err != api.OK {
		t.Error(z, err)
	}
	for i, c := range []struct {
		c    api.Cart
		name string
		want looks
	}{
		{x, "Tea", looks{[]string{"Nut", "Tea"}, 12, 5, 0, 5, 0, dots(1, 1)}}, {z, "Tea", looks{[]string{"Nut", "Tea"}, 9, 10, 0, 2, 0, dots(1, 1, 1, 2)}}, {x, "Oil", looks{[]string{"Nut", "Tea"}, 12, 5, 0, 0, api.ErrNone, nil}},
		{x, "", looks{[]string{"Nut", "Tea"}, 12, 5, 0, 0, api.ErrNone, dots(1, 1, 2, 1)}}, {y, "Tea", looks{bad: api.ErrArg, none: api.ErrArg}}, {api.Cart{}, "", looks{time: 1, none: api.ErrNone}},
	} {
		if seen := look(c.c, c.name); !same(seen, c.want) {
			t.Error(i, seen)
		}
	}
}

// P10.1: carts that are known.
func TestKnownValid(t *testing.T) {
	one, two := mark(1, 1, 1, 1), mark(1, 2, 1, 1)
	for i, c := range []struct {
		c    api.Cart
		want bool
	}{
		// No cart at all, contexts without items, and items whose dots are in the vector, in the cloud, and in both.
		{api.Cart{}, true}, {with(con(0), of()...), true}, {api.Cart{Context: api.Context{Vector: api.Vector{}, Cloud: []api.Dot{}}, Items: of()}, true}, {with(con(1, 1, 1)), true}, {with(con(0, 1, 2)), true}, {with(con(2, 1, 2, 3, 7, 1, 4)), true}, {full(), true},
		{with(con(1, 1, 1), item("a", one)), true}, {with(con(1, 1, 9), item("a", one)), true}, {with(con(1, 1, 9), item("a", mark(1, 9, 1, 1))), true}, {with(con(1, 1, 9), item("a", mark(1, 10, 1, 1))), false}, {with(con(0, 1, 2), item("a", two)), true}, {with(con(1, 1, 2, 1, 4), item("a", one, mark(1, 4, 1, 1))), true},
		{with(con(0), item("a", one)), false}, {with(con(1, 1, 1), item("a", two)), false}, {with(con(1, 2, 1), item("a", one)), false}, {with(con(0, 1, 2), item("a", one)), false}, {with(con(0, 1, 2), item("a", mark(1, 3, 1, 1))), false}, {with(con(0, 2, 2), item("a", two)), false}, {with(con(1, 1, 1, 2, 2), item("a", one, two)), false},
		{with(con(1, 1, 1), item("a", one, two)), false}, {with(con(1, 1, 1), item("a", one), item("b", two)), false}, {with(con(0, 1, 2), item("a", one), item("b", two)), false}, {with(con(1, 1, 2), item("a", one), item("b", two)), true}, {with(con(1, 1, 2), item("a", two), item("b", one)), true},
		// Valid contexts that are not compact, and contexts that are not valid.
		{with(con(0, 1, 1)), false}, {with(con(0, 1, 1), item("a", one)), false}, {with(con(1, 1, 2, 1, 3)), false}, {with(con(1, 1, 2, 1, 1)), false}, {with(con(1, 1, 2, 1, 2), item("a", two)), false}, {with(con(2, 2, 1, 1, 1)), false}, {with(con(0, 1, 5, 1, 3)), false}, {with(con(0, 0, 2)), false}, {with(con(2, 1, 1, 1, 1)), false},
		// Items that are not valid.
		{with(con(1, 1, 2), item("b", one), item("a", two)), false}, {with(con(1, 1, 2), item("a", one), item("a", two)), false}, {with(con(1, 1, 2), item("a", two, one)), false}, {with(con(1, 1, 2), item("a", one, one)), false}, {with(con(1, 1, 2), item("a", one), item("b", one)), false}, {with(con(1, 1, 2), item("a")), false}, {with(con(1, 1, 2), item("", one)), false}, {with(con(1, 1, 2), item("a", mark(1, 1, 0, 1))), false}, {with(con(1, 1, 2), item("a", mark(1, 1, 1, 0))), false}, {with(con(1, 1, 2), item("a", mark(1, 0, 1, 1))), false}, {with(con(1, 1, 2), api.Item{}), false},
		// The limits.
		{with(con(1, 65535, 4294967295), item("a", mark(65535, 4294967295, 2147483647, math.MaxUint64))), true}, {with(con(0, 65535, 4294967295), item("a", mark(65535, 4294967295, 2147483647, math.MaxUint64))), true}, {with(con(1, 65535, 4294967294), item("a", mark(65535, 4294967295, 1, 1))), false}, {with(con(1, 65535, 4294967295), item("a", mark(65535, 4294967296, 1, 1))), false}, {with(con(1, 1, 1), item(strings.Repeat("t", 64), one)), true}, {with(con(1, 1, 1), item(strings.Repeat("t", 65), one)), false},
	} {
		if is := Valid(c.c); is != c.want || is != isCart(c.c) {
			t.Error(i, c.c, is)
		}
	}
}

// P10.1: carts that are not valid for one reason alone, those that can be put in order and those that can not.
func TestInvalid(t *testing.T) {
	for _, c := range notLoose() {
		if isLoose(c) {
			t.Fatal(c)
		}
		if Valid(c) {
			t.Fatal("valid", c)
		}
	}
	for _, c := range notValid() {
		if isCart(c) || !isLoose(c) {
			t.Fatal(c)
		}
		if Valid(c) {
			t.Fatal("valid", c)
		}
	}
}

// P10.1 to P10.4: all carts of a few contexts and short lists of a few items, by the definitions.
func TestFew(t *testing.T) {
	valid, loose := 0, 0
	fewCarts(func(c api.Cart) {
		is := isCart(c)
		if Valid(c) != is {
			t.Fatal(c, !is)
		}
		want, wrong := canonOf(c)
		x, err := Canon(c)
		if !alike(x, want) || err != wrong {
			t.Fatal(c, x, err)
		}
		for _, name := range []string{"a", "ab", "c", "", "d"} {
			if seen := look(c, name); !same(seen, looksOf(c, name)) {
				t.Fatal(c, name, seen)
			}
		}
		if is {
			valid++
		} else if err == api.OK {
			loose++
		}
	})
	if valid < 50 || loose < 1000 {
		t.Error(valid, loose)
	}
}

// changes are carts that differ in one part alone from one, which has dots in the vector and in the cloud, and at least two items, each with a mark or more.
func changes(c api.Cart) []api.Cart {
	var out []api.Cart
	change := func(f func(c *api.Cart)) {
		other := deep(c)
		f(&other)
		out = append(out, other)
	}
	bys := []int{-1, 1, 1 << 32, math.MinInt}
	for i := range c.Context.Vector {
		for _, by := range bys {
			change(func(c *api.Cart) { c.Context.Vector[i].Replica += by })
			change(func(c *api.Cart) { c.Context.Vector[i].Counter += by })
		}
		change(func(c *api.Cart) { c.Context.Vector = slices.Delete(c.Context.Vector, i, i+1) })
		change(func(c *api.Cart) { c.Context.Vector = slices.Insert(c.Context.Vector, i, api.Dot{}) })
	}
	for i := range c.Context.Cloud {
		for _, by := range bys {
			change(func(c *api.Cart) { c.Context.Cloud[i].Replica += by })
			change(func(c *api.Cart) { c.Context.Cloud[i].Counter += by })
		}
		change(func(c *api.Cart) { c.Context.Cloud = slices.Delete(c.Context.Cloud, i, i+1) })
		change(func(c *api.Cart) { c.Context.Cloud = slices.Insert(c.Context.Cloud, i, api.Dot{}) })
	}
	for i, x := range c.Items {
		change(func(c *api.Cart) { c.Items[i].Name += "x" })
		change(func(c *api.Cart) { c.Items[i].Name = "" })
		change(func(c *api.Cart) { c.Items[i].Marks = nil })
		change(func(c *api.Cart) { c.Items = slices.Delete(c.Items, i, i+1) })
		change(func(c *api.Cart) { c.Items = slices.Insert(c.Items, i, api.Item{}) })
		for k := range x.Marks {
			for _, by := range bys {
				change(func(c *api.Cart) { c.Items[i].Marks[k].Dot.Replica += by })
				change(func(c *api.Cart) { c.Items[i].Marks[k].Dot.Counter += by })
				change(func(c *api.Cart) { c.Items[i].Marks[k].Qty += by })
				change(func(c *api.Cart) { c.Items[i].Marks[k].Time += uint64(by) })
			}
			change(func(c *api.Cart) { c.Items[i].Marks = slices.Delete(c.Items[i].Marks, k, k+1) })
			change(func(c *api.Cart) { c.Items[i].Marks = slices.Insert(c.Items[i].Marks, k, api.Mark{}) })
		}
	}
	change(func(c *api.Cart) { c.Context.Vector = nil })
	change(func(c *api.Cart) { c.Context.Cloud = nil })
	change(func(c *api.Cart) { c.Context.Vector = append(c.Context.Vector, api.Dot{}) })
	change(func(c *api.Cart) { c.Context.Cloud = append(c.Context.Cloud, api.Dot{}) })
	change(func(c *api.Cart) { c.Context.Vector, c.Context.Cloud = c.Context.Cloud, c.Context.Vector })
	change(func(c *api.Cart) { c.Context = api.Context{Vector: slices.Concat(c.Context.Vector, c.Context.Cloud)} })
	change(func(c *api.Cart) { c.Context = api.Context{} })
	change(func(c *api.Cart) { c.Items = nil })
	change(func(c *api.Cart) { c.Items = append(c.Items, api.Item{}) })
	change(func(c *api.Cart) { slices.Reverse(c.Items) })
	return out
}

// P10.1: carts that differ in one part alone are not equal, and carts of which each part is equal are, also if they are not valid.
func TestEqual(t *testing.T) {
	for _, c := range []api.Cart{
		full(), with(con(2, 1, 2, 2, 4, 3, 5), tea, nut), with(con(2, 5, 1, 1, -1, 4, 4, 4, 4), item("\xff ", mark(-1, 0, -5, 0)), item("B", mark(9, 9, 9, 9), mark(1, 1, 1, 1)), item("\xff ", mark(3, 3, 3, 3))),
	} {
		if !Equal(c, c) || !Equal(c, deep(c)) || !Equal(deep(c), c) {
			t.Error(c)
		}
		for _, other := range changes(c) {
			if alike(c, other) {
				t.Fatal(c, other)
			}
			if Equal(c, other) || Equal(other, c) || !Equal(other, deep(other)) {
				t.Error(c, other)
			}
		}
	}
}

// P10.1: all pairs of some carts, and carts whose parts are nil or empty.
func TestEqualPairs(t *testing.T) {
	var all []api.Cart
	for _, l := range lists(2, fewItems()[:5]...) {
		for _, seen := range fewContexts() {
			all = append(all, with(seen, l...))
		}
	}
	for _, a := range all {
		for _, b := range all {
			if is := Equal(a, b); is != alike(a, b) {
				t.Fatal(a, b, is)
			}
		}
	}
	empty := api.Cart{Context: api.Context{Vector: api.Vector{}, Cloud: []api.Dot{}}, Items: of()}
	if !Equal(api.Cart{}, empty) || !Equal(empty, api.Cart{}) || Equal(empty, with(con(0), api.Item{})) || !Equal(with(con(0), api.Item{}), with(con(0), api.Item{Marks: []api.Mark{}})) {
		t.Error("nil and empty")
	}
}

// P10.1: a copy is equal, also of a cart that is not valid.
func TestCopy(t *testing.T) {
	for _, c := range slices.Concat([]api.Cart{{}, full(), with(con(0), of()...)}, notLoose(), notValid(), changes(full())) {
		if x := Copy(c); !alike(x, c) || !Equal(x, c) {
			t.Fatal(c, x)
		}
	}
	fewCarts(func(c api.Cart) {
		if x := Copy(c); !alike(x, c) {
			t.Fatal(c, x)
		}
	})
}

// P10.2: loose carts that are known, and what they are when they were put in order.
func TestKnownCanon(t *testing.T) {
	for i, c := range []struct{ c, want api.Cart }{
		{api.Cart{}, api.Cart{}}, {with(con(0), of()...), api.Cart{}}, {full(), full()}, {with(con(2, 1, 2, 2, 4, 3, 5, 9, 9), tea, oil, nut), full()}, {with(con(2, 1, 2, 2, 4, 9, 9), oil, item("Tea", tea.Marks[1], tea.Marks[0]), nut), full()},
		// A context without items, compact and not.
		{with(con(2, 1, 2, 3, 7, 1, 5)), with(con(2, 1, 2, 3, 7, 1, 5))}, {with(con(0, 1, 1, 1, 2, 1, 4)), with(con(1, 1, 2, 1, 4))}, {with(con(1, 1, 5, 1, 3, 2, 4)), with(con(1, 1, 5, 2, 4))}, {with(con(1, 2, 3, 1, 1, 1, 2, 2, 4)), with(con(2, 1, 2, 2, 4))},
		// The context gets the dots: into the vector, into the cloud, in a gap, so that the cloud goes into the vector; those that it has stay.
		{with(con(0), tea), with(con(1, 1, 2), tea)}, {with(con(0), oil), with(con(0, 3, 5), oil)}, {with(con(0), nut, oil, tea), with(con(2, 1, 2, 2, 1, 3, 5), nut, oil, tea)}, {with(con(1, 1, 1), tea), with(con(1, 1, 2), tea)}, {with(con(0, 1, 2), tea), with(con(1, 1, 2), tea)},
		{with(con(1, 1, 1, 1, 3, 1, 4, 1, 6), tea), with(con(1, 1, 4, 1, 6), tea)}, {with(con(0, 1, 3, 2, 3), tea), with(con(1, 1, 3, 2, 3), tea)}, {with(con(1, 3, 4), oil), with(con(1, 3, 5), oil)}, {with(con(1, 3, 3, 3, 7), oil), with(con(1, 3, 3, 3, 5, 3, 7), oil)}, {with(con(1, 3, 5), oil), with(con(1, 3, 5), oil)}, {with(con(1, 3, 9), oil), with(con(1, 3, 9), oil)},
		{with(con(1, 3, 9, 3, 5), oil), with(con(1, 3, 9), oil)}, {with(con(0, 3, 5), oil), with(con(0, 3, 5), oil)}, {with(con(2, 1, 7, 9, 9), nut), with(con(3, 1, 7, 2, 1, 9, 9), nut)}, {with(con(0, 9, 9), nut), with(con(1, 2, 1, 9, 9), nut)},
		// The names are in the order of their bytes, whatever the dots are, and the marks in that of their counters and then of their replicas, whatever their times are.
		{with(con(0), item("ab", mark(1, 1, 1, 1)), item("a", mark(1, 2, 1, 1)), item("a b", mark(1, 3, 1, 1)), item("Z", mark(1, 4, 1, 1)), item("9", mark(1, 5, 1, 1)), item("10", mark(1, 6, 1, 1))), with(con(1, 1, 6), item("10", mark(1, 6, 1, 1)), item("9", mark(1, 5, 1, 1)), item("Z", mark(1, 4, 1, 1)), item("a", mark(1, 2, 1, 1)), item("a b", mark(1, 3, 1, 1)), item("ab", mark(1, 1, 1, 1)))},
		{with(con(0), item("a", mark(1, 3, 1, 1), mark(2, 2, 2, 2), mark(3, 1, 3, 3))), with(con(1, 3, 1, 2, 2, 1, 3), item("a", mark(3, 1, 3, 3), mark(2, 2, 2, 2), mark(1, 3, 1, 1)))}, {with(con(0), item("a", mark(3, 1, 1, 1), mark(1, 1, 2, 2), mark(2, 1, 3, 3))), with(con(3, 1, 1, 2, 1, 3, 1), item("a", mark(1, 1, 2, 2), mark(2, 1, 3, 3), mark(3, 1, 1, 1)))},
		{with(con(0), item("a", mark(1, 10, 1, 1), mark(10, 9, 2, 2))), with(con(0, 10, 9, 1, 10), item("a", mark(10, 9, 2, 2), mark(1, 10, 1, 1)))},
		// The limits.
		{with(con(0), item("b", mark(65535, 4294967295, 2147483647, math.MaxUint64)), item("a", mark(65535, 1, 1, 1))), with(con(1, 65535, 1, 65535, 4294967295), item("a", mark(65535, 1, 1, 1)), item("b", mark(65535, 4294967295, 2147483647, math.MaxUint64)))},
		{with(con(1, 65535, 4294967294), item("b", mark(65535, 4294967295, 1, 1))), with(con(1, 65535, 4294967295), item("b", mark(65535, 4294967295, 1, 1)))}, {with(con(0), item(strings.Repeat("t", 64), mark(1, 1, 1, 1))), with(con(1, 1, 1), item(strings.Repeat("t", 64), mark(1, 1, 1, 1)))},
	} {
		x, err := Canon(c.c)
		if !alike(x, c.want) || err != api.OK || !isCart(c.want) {
			t.Error(i, x, err)
		}
		if x, err := Canon(x); !alike(x, c.want) || err != api.OK {
			t.Error(i, x, err)
		}
	}
}

// P10.2: carts that are not loose, each for one reason alone, and those that are loose, but not valid.
func TestNotLoose(t *testing.T) {
	for _, c := range notLoose() {
		if x, err := Canon(c); !alike(x, api.Cart{}) || err != api.ErrArg {
			t.Fatal(c, x, err)
		}
	}
	for _, c := range notValid() {
		want, _ := canonOf(c)
		if x, err := Canon(c); !alike(x, want) || err != api.OK || !Valid(x) {
			t.Fatal(c, x, err)
		}
	}
}

// P10.3 and P10.4: calls that are known, and the errors in their order.
func TestKnownLooks(t *testing.T) {
	more := with(con(3, 1, 9, 2, 9, 3, 9), item("a", mark(2, 1, 2147483647, 4), mark(9, 9, 3, 3)), item("a b", mark(1, 1, 2147483647, 1), mark(2, 2, 5, 2), mark(1, 3, 2147483647, 2)), item("b", mark(1, 4, 2147483647, 7), mark(1, 5, 2147483647, 7)))
	more.Context.Cloud = dots(9, 9)
	late := with(con(1, 1, 3), item("a", mark(1, 1, 1, 2), mark(1, 2, 4, math.MaxUint64)), item("b", mark(1, 3, 8, 1)))
	for i, c := range []struct {
		c    api.Cart
		name string
		want looks
	}{
		{full(), "Tea", looks{[]string{"Nut", "Oil", "Tea"}, 10, 10, 0, 2, 0, dots(1, 1, 1, 2)}}, {full(), "Nut", looks{[]string{"Nut", "Oil", "Tea"}, 10, 10, 0, 7, 0, dots(2, 1)}}, {full(), "Oil", looks{[]string{"Nut", "Oil", "Tea"}, 10, 10, 0, 1, 0, dots(3, 5)}},
		// A name that is not there, of no bytes, of a part of one, and one that is no name.
		{full(), "Pie", looks{[]string{"Nut", "Oil", "Tea"}, 10, 10, 0, 0, api.ErrNone, nil}}, {full(), "", looks{[]string{"Nut", "Oil", "Tea"}, 10, 10, 0, 0, api.ErrNone, dots(1, 1, 2, 1, 1, 2, 3, 5)}}, {full(), "Te", looks{[]string{"Nut", "Oil", "Tea"}, 10, 10, 0, 0, api.ErrNone, nil}}, {full(), "tea", looks{[]string{"Nut", "Oil", "Tea"}, 10, 10, 0, 0, api.ErrNone, nil}}, {full(), " ", looks{[]string{"Nut", "Oil", "Tea"}, 10, 10, 0, 0, api.ErrNone, nil}}, {full(), "\xff", looks{[]string{"Nut", "Oil", "Tea"}, 10, 10, 0, 0, api.ErrNone, nil}},
		// No marks at all, with a context and without one.
		{api.Cart{}, "", looks{nil, 0, 1, 0, 0, api.ErrNone, nil}}, {api.Cart{}, "Tea", looks{nil, 0, 1, 0, 0, api.ErrNone, nil}}, {with(con(1, 1, 9, 2, 5)), "", looks{nil, 0, 1, 0, 0, api.ErrNone, nil}}, {with(con(1, 1, 9, 2, 5)), "Tea", looks{nil, 0, 1, 0, 0, api.ErrNone, nil}},
		// A sum that is no quantity, and newest marks in front, in the middle and behind, some of equal times.
		{more, "a", looks{[]string{"a", "a b", "b"}, 2147483647 + 5 + 2147483647, 8, 0, 2147483647, 0, dots(2, 1, 9, 9)}}, {more, "a b", looks{[]string{"a", "a b", "b"}, 2147483647 + 5 + 2147483647, 8, 0, 5, 0, dots(1, 1, 2, 2, 1, 3)}}, {more, "", looks{[]string{"a", "a b", "b"}, 2147483647 + 5 + 2147483647, 8, 0, 0, api.ErrNone, dots(1, 1, 2, 1, 2, 2, 1, 3, 1, 4, 1, 5, 9, 9)}},
		// The greatest time, and the one before.
		{late, "a", looks{[]string{"a", "b"}, 12, 0, api.ErrExhausted, 4, 0, dots(1, 1, 1, 2)}}, {late, "c", looks{[]string{"a", "b"}, 12, 0, api.ErrExhausted, 0, api.ErrNone, nil}}, {with(con(1, 1, 1), item("a", mark(1, 1, 3, math.MaxUint64-1))), "a", looks{[]string{"a"}, 3, math.MaxUint64, 0, 3, 0, dots(1, 1)}}, {with(con(1, 1, 2), item("a", mark(1, 1, 3, 1)), item("b", mark(1, 2, 3, math.MaxUint64))), "a", looks{[]string{"a", "b"}, 6, 0, api.ErrExhausted, 3, 0, dots(1, 1)}},
		// A cart that is not valid comes first: before a name that is not there, and before the greatest time.
		{with(con(1, 1, 2), late.Items...), "a", looks{bad: api.ErrArg, none: api.ErrArg}}, {with(con(1, 1, 2), late.Items...), "c", looks{bad: api.ErrArg, none: api.ErrArg}}, {with(con(1, 1, 3), late.Items[1], late.Items[0]), "", looks{bad: api.ErrArg, none: api.ErrArg}}, {with(con(2, 1, 3, 1, 3), late.Items...), "a", looks{bad: api.ErrArg, none: api.ErrArg}}, {with(con(1, 1, 3, 1, 4), late.Items...), "b", looks{bad: api.ErrArg, none: api.ErrArg}}, {with(con(0, 1, 1)), "c", looks{bad: api.ErrArg, none: api.ErrArg}},
	} {
		if seen := look(c.c, c.name); !same(seen, c.want) || !same(looksOf(c.c, c.name), c.want) {
			t.Error(i, seen)
		}
	}
}

// P10.3 and P10.4: carts that are not valid, for one reason alone, have no names, no units and no dots, whatever is asked for.
func TestLooksOfInvalid(t *testing.T) {
	for _, c := range append(notLoose(), notValid()...) {
		for _, name := range []string{"Nut", "Oil", "Tea", "Pie", "Zoo", "", " "} {
			if seen := look(c, name); !same(seen, looks{bad: api.ErrArg, none: api.ErrArg}) {
				t.Fatal(c, name, seen)
			}
		}
	}
}

// P10.3: the quantity of an item, for all short lists of marks, in order, at the same times and at others.
func TestQty(t *testing.T) {
	for _, times := range lists(4, uint64(1), 2, math.MaxUint64) {
		if len(times) == 0 {
			continue
		}
		x := item("Tea")
		for i, time := range times {
			x.Marks = append(x.Marks, mark([]int{2, 1, 3, 2}[i], 1+i, 10+i, time))
		}
		c := with(con(3, 1, 9, 2, 9, 3, 9), item("Nut", mark(1, 9, 100, 1)), x, item("Zoo", mark(2, 9, 1000, 1)))
		if seen := look(c, "Tea"); !same(seen, looksOf(c, "Tea")) || seen.qty < 10 || seen.units != 1100+seen.qty {
			t.Fatal(c, seen)
		}
	}
}

// P10.5: the items of a loose cart, and the marks of each item, in all orders, with what is in order in front.
func TestAllOrders(t *testing.T) {
	seen := con(1, 1, 1, 2, 2, 1, 3)
	l := of(item("B", mark(1, 4, 1, 1), mark(3, 1, 2, 2), mark(2, 1, 2, 3)), item("a", mark(1, 2, 5, 3)), item("a b", mark(9, 9, 7, 4), mark(4, 2, 1, 1)), item("b", mark(2, 3, 1, 1)))
	want := with(con(3, 1, 4, 2, 3, 3, 1, 4, 2, 9, 9), item("B", mark(2, 1, 2, 3), mark(3, 1, 2, 2), mark(1, 4, 1, 1)), l[1], item("a b", mark(4, 2, 1, 1), mark(9, 9, 7, 4)), l[3])
	for _, first := range orders(l[0].Marks) {
		for _, third := range orders(l[2].Marks) {
			for _, o := range orders(of(item("B", first...), l[1], item("a b", third...), l[3])) {
				if x, err := Canon(with(seen, o...)); !alike(x, want) || err != api.OK || !Valid(x) {
					t.Fatal(o, x, err)
				}
			}
		}
	}
	if x, err := Canon(want); !alike(x, want) || err != api.OK {
		t.Error(x, err)
	}
}

// random returns a loose cart, always the same one with a source in the same state.
func random(r *rand.Rand, size int) api.Cart {
	var c api.Cart
	for replica := 1; replica < 9; replica++ {
		if r.Intn(2) == 0 {
			c.Context.Vector = append(c.Context.Vector, api.Dot{Replica: replica, Counter: 1 + r.Intn(9)})
		}
	}
	for counter := 1; counter < 9; counter++ {
		if r.Intn(2) == 0 {
			c.Context.Cloud = append(c.Context.Cloud, api.Dot{Replica: 1 + r.Intn(9), Counter: counter})
		}
	}
	var free []api.Dot
	for i := range 4 * size {
		free = append(free, api.Dot{Replica: 1 + i%9, Counter: 1 + i/9})
	}
	r.Shuffle(len(free), func(i, k int) { free[i], free[k] = free[k], free[i] })
	for i := range size {
		x := item("Item " + strconv.Itoa(i*i%100+100*i))
		for n := 1 + r.Intn(4); n > 0; n-- {
			x.Marks = append(x.Marks, api.Mark{Dot: free[0], Qty: 1 + r.Intn(9), Time: 1 + uint64(r.Intn(9))})
			free = free[1:]
		}
		c.Items = append(c.Items, x)
	}
	return c
}

// P10.5: what Canon returns is valid, and Canon of it returns it; the order of what is given does not matter; Units is the sum of Qty over Names; all dots of Dots are in the context.
func TestConsequences(t *testing.T) {
	r := rand.New(rand.NewSource(10))
	for i := range 200 {
		c := random(r, i/4)
		want, _ := canonOf(c)
		x, err := Canon(c)
		if !alike(x, want) || err != api.OK || !Valid(x) || !isCart(x) {
			t.Fatal(c, x, err)
		}
		if again, err := Canon(x); !Equal(again, x) || err != api.OK {
			t.Fatal(x, again, err)
		}
		for _, y := range c.Items {
			r.Shuffle(len(y.Marks), func(i, k int) { y.Marks[i], y.Marks[k] = y.Marks[k], y.Marks[i] })
		}
		r.Shuffle(len(c.Items), func(i, k int) { c.Items[i], c.Items[k] = c.Items[k], c.Items[i] })
		if other, err := Canon(c); !Equal(other, x) || err != api.OK {
			t.Fatal(c, other, err)
		}
		units, all := 0, []api.Dot(nil)
		for _, name := range Names(x) {
			n, err := Qty(x, name)
			if err != api.OK {
				t.Fatal(x, name, err)
			}
			units, all = units+n, append(all, Dots(x, name)...)
		}
		if every := Dots(x, ""); Units(x) != units || len(Names(x)) != len(c.Items) || !slices.Equal(every, setOf(all)) || len(every) != len(all) || slices.ContainsFunc(every, func(d api.Dot) bool { return !in(x.Context, d) }) {
			t.Fatal(x, Units(x), every)
		}
		next, err := Time(x)
		if err != api.OK || slices.ContainsFunc(x.Items, func(y api.Item) bool {
			return slices.ContainsFunc(y.Marks, func(m api.Mark) bool { return m.Time >= next })
		}) {
			t.Fatal(x, next, err)
		}
	}
}

// P1: more items than a cart gets by local changes, many items and many marks, with what is wrong behind all the others.
func TestLong(t *testing.T) {
	const size = 1 << 17
	c := with(con(1, 1, size))
	for i := range size {
		c.Items = append(c.Items, item(strconv.Itoa(1000000+i), mark(1, 1+i, api.MaxQty, 7)))
	}
	mixed := with(con(0), slices.Clone(c.Items)...)
	slices.Reverse(mixed.Items)
	x, err := Canon(mixed)
	if !Equal(x, c) || err != api.OK || !Valid(c) || !Equal(Copy(c), c) || len(Names(c)) != size || Units(c) != size*api.MaxQty || len(Dots(c, "")) != size {
		t.Error("many items", err)
	}
	if n, err := Qty(c, c.Items[size-1].Name); n != api.MaxQty || err != api.OK {
		t.Error(n, err)
	}
	// The last dot is not in the context any more; then it is that of two items; then two items have one name.
	c.Items[size-1].Marks[0].Dot.Counter++
	x, err = Canon(c)
	if Valid(c) || Units(c) != 0 || len(Names(c)) != 0 || !slices.Equal(x.Context.Vector, dots(1, size+1)) || len(x.Items) != size || err != api.OK {
		t.Error("a dot that was not seen", err)
	}
	c.Items[size-1].Marks[0].Dot.Counter = 1
	if x, err := Canon(c); Valid(c) || Units(c) != 0 || !alike(x, api.Cart{}) || err != api.ErrArg {
		t.Error("a dot of two items", err)
	}
	c.Items[size-1] = item(c.Items[0].Name, mark(1, size, 1, 1))
	if x, err := Canon(c); Valid(c) || Units(c) != 0 || !alike(x, api.Cart{}) || err != api.ErrArg {
		t.Error("a name of two items", err)
	}
	big := item("Tea")
	for i := range size {
		big.Marks = append(big.Marks, mark(1+i%3, 1+i, 1+i, 1+uint64(i)))
	}
	slices.Reverse(big.Marks)
	x, err = Canon(with(con(0), big))
	if err != api.OK || !Valid(x) || Units(x) != size || len(Dots(x, "Tea")) != size {
		t.Error("many marks", err)
	}
	if next, err := Time(x); next != size+1 || err != api.OK {
		t.Error(next, err)
	}
	big.Marks[size-1].Dot = big.Marks[0].Dot
	if x, err := Canon(with(con(0), big)); !alike(x, api.Cart{}) || err != api.ErrArg {
		t.Error("a dot of two marks", err)
	}
}

// span is the memory of a slice, up to its capacity, or of a string.
type span struct{ from, to uintptr }

func sliceSpan[T any](l []T) span {
	var one T
	from := uintptr(unsafe.Pointer(unsafe.SliceData(l)))
	return span{from, from + uintptr(cap(l))*unsafe.Sizeof(one)}
}
func stringSpan(s string) span {
	from := uintptr(unsafe.Pointer(unsafe.StringData(s)))
	return span{from, from + uintptr(len(s))}
}

// overlap is whether two spans share memory, spans are those of a cart.
func overlap(a, b span) bool { return max(a.from, b.from) < min(a.to, b.to) }
func spans(c api.Cart) []span {
	out := []span{sliceSpan(c.Context.Vector), sliceSpan(c.Context.Cloud), sliceSpan(c.Items)}
	for _, x := range c.Items {
		out = append(out, stringSpan(x.Name), sliceSpan(x.Marks))
	}
	return out
}

// results are the carts, the lists of names and the sets of dots that calls with a cart return, each call made twice.
func results(c api.Cart) (carts []api.Cart, names [][]string, sets [][]api.Dot) {
	for range 2 {
		x, _ := Canon(c)
		carts = append(carts, x, Copy(c))
		names = append(names, Names(c))
		sets = append(sets, Dots(c, ""), Dots(c, "Tea"), Dots(c, "Nut"))
		Valid(c)
		Equal(c, x)
		Qty(c, "Tea")
		Units(c)
		Time(c)
	}
	return carts, names, sets
}

// someCarts are carts that are valid, that are loose and that are neither; with dots, marks and items behind the ends of their lists.
func someCarts() []api.Cart {
	out := []api.Cart{{}, full(), with(con(2, 1, 2, 2, 4, 9, 9), item("Tea", tea.Marks[1], tea.Marks[0]), oil, nut), with(con(2, 1, 2, 2, 4, 1, 1, 9, 9), oil, nut), with(con(1, 1, 1, 1, 2), tea), with(con(2, 2, 4, 1, 2, 9, 9, 3, 5), tea, item("", mark(0, 0, 0, 0)), tea)}
	for i, c := range out {
		c = deep(c)
		for k, x := range c.Items {
			c.Items[k].Marks = append(x.Marks, mark(8, 8, 8, 8))[:len(x.Marks)]
		}
		c.Context.Vector = append(c.Context.Vector, dots(8, 8)...)[:len(c.Context.Vector)]
		c.Context.Cloud = append(c.Context.Cloud, dots(8, 8)...)[:len(c.Context.Cloud)]
		c.Items = append(c.Items, item("Behind", mark(8, 8, 8, 8)))[:len(c.Items)]
		out[i] = c
	}
	return out
}

// whole is a cart with what is behind the ends of its lists.
func whole(c api.Cart) api.Cart {
	c.Context.Vector, c.Context.Cloud = c.Context.Vector[:len(c.Context.Vector)+1], c.Context.Cloud[:len(c.Context.Cloud)+1]
	c.Items = slices.Clone(c.Items[:len(c.Items)+1])
	for k, x := range c.Items[:len(c.Items)-1] {
		c.Items[k].Marks = x.Marks[:len(x.Marks)+1]
	}
	return c
}

// spoil changes all that a cart has, also behind the ends of its lists.
func spoil(c api.Cart) {
	bad := mark(-9, -9, -9, 9)
	for _, l := range [][]api.Dot{c.Context.Vector, c.Context.Cloud} {
		for i := range l[:cap(l)] {
			l[:cap(l)][i] = bad.Dot
		}
	}
	for _, x := range c.Items {
		for i := range x.Marks[:cap(x.Marks)] {
			x.Marks[:cap(x.Marks)][i] = bad
		}
	}
	for i := range c.Items[:cap(c.Items)] {
		c.Items[:cap(c.Items)][i] = item("spoilt", bad)
	}
}

// The rules: no call changes its argument, not even behind the ends of its lists, and equal calls have equal results.
func TestArgumentsStay(t *testing.T) {
	for _, c := range someCarts() {
		before := deep(whole(c))
		carts, names, sets := results(c)
		if !alike(whole(c), before) {
			t.Error(before, whole(c))
		}
		if !alike(carts[0], carts[2]) || !alike(carts[1], carts[3]) || !slices.Equal(names[0], names[1]) || !slices.EqualFunc(sets[:3], sets[3:], slices.Equal[[]api.Dot]) {
			t.Error(c, carts, names, sets)
		}
	}
}

// The rules: whatever is changed in a result, the arguments, the other results and the other parts of it stay what they were; whatever is changed in an argument, the results do.
func TestNewMemory(t *testing.T) {
	for _, c := range someCarts() {
		before := deep(whole(c))
		carts, names, sets := results(c)
		kept := [2]api.Cart{deep(carts[2]), deep(carts[3])}
		all, every := slices.Clone(names[1]), slices.Concat(sets[3:]...)
		spoil(carts[0])
		spoil(carts[1])
		for i := range names[0] {
			names[0][i] = "spoilt"
		}
		for _, l := range sets[:3] {
			for i := range l[:cap(l)] {
				l[:cap(l)][i] = api.Dot{}
			}
		}
		stay := func() bool {
			return alike(carts[2], kept[0]) && alike(carts[3], kept[1]) && slices.Equal(names[1], all) && slices.Equal(slices.Concat(sets[3:]...), every)
		}
		if !alike(whole(c), before) || !stay() {
			t.Error(before, c, carts, names, sets)
		}
		spoil(c)
		if !stay() {
			t.Error(before, carts, names, sets)
		}
	}
}

// The rules: no two lists or names of arguments and results share memory, not even behind their ends.
func TestNothingShared(t *testing.T) {
	for _, c := range someCarts() {
		carts, names, sets := results(c)
		var made []span
		for _, x := range carts {
			made = append(made, spans(x)...)
		}
		for _, l := range names {
			made = append(made, sliceSpan(l))
			for _, name := range l {
				made = append(made, stringSpan(name))
			}
		}
		for _, l := range sets {
			made = append(made, sliceSpan(l))
		}
		given := spans(c)
		for i, a := range made {
			if slices.ContainsFunc(slices.Concat(given, made[i+1:]), func(b span) bool { return overlap(a, b) }) {
				t.Fatal(c, i)
			}
		}
	}
}

// The rules: a list that is there twice in an argument is not shared by the results.
func TestSharedArguments(t *testing.T) {
	l := dots(1, 2)
	c := with(api.Context{Vector: l, Cloud: l}, tea, nut, tea)
	x := Copy(c)
	x.Context.Vector[0].Counter, x.Items[0].Marks[0].Qty = 99, 99
	if !slices.Equal(x.Context.Cloud, dots(1, 2)) || x.Items[2].Marks[0].Qty != 5 || !alike(c, with(con(1, 1, 2, 1, 2), tea, nut, tea)) || tea.Marks[0].Qty != 5 {
		t.Error(x, c)
	}
	d := con(2, 1, 2, 2, 4, 9, 9)
	made, err := Canon(with(d, nut))
	_ = append(made.Context.Vector, api.Dot{}, api.Dot{})
	made.Context.Vector[0].Counter = 99
	if err != api.OK || !slices.Equal(made.Context.Cloud, dots(9, 9)) || !slices.Equal(d.Vector, dots(1, 2, 2, 4)) || !slices.Equal(d.Cloud, dots(9, 9)) {
		t.Error(made, d, err)
	}
}
