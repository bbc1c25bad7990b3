package items

import (
	"math"
	"math/rand"
	"regexp"
	"slices"
	"strconv"
	"strings"
	"testing"
	"unsafe"

	"pannier/api"
)

// mark returns the mark of a dot with a quantity and a time, item an item, and of a list of items.
func mark(replica, counter, q int, time uint64) api.Mark {
	return api.Mark{Dot: api.Dot{Replica: replica, Counter: counter}, Qty: q, Time: time}
}
func item(name string, marks ...api.Mark) api.Item { return api.Item{Name: name, Marks: marks} }
func of(l ...api.Item) []api.Item                  { return l }

// lists are all lists of at most some things out of a few.
func lists[T any](most int, few ...T) [][]T {
	out := [][]T{nil}
	for from, n := 0, 0; n < most; n++ {
		to := len(out)
		for _, l := range out[from:to] {
			for _, x := range few {
				out = append(out, append(slices.Clone(l), x))
			}
		}
		from = to
	}
	return out
}

// orders are all lists of the things of a list, each of them in another order.
func orders[T any](l []T) [][]T {
	if len(l) == 0 {
		return [][]T{nil}
	}
	var out [][]T
	for i := range l {
		rest := slices.Delete(slices.Clone(l), i, i+1)
		for _, o := range orders(rest) {
			out = append(out, append(o, l[i]))
		}
	}
	return out
}

// alike is whether two lists of items are equal in all parts, element by element, by the definition.
func alike(a, b []api.Item) bool {
	if len(a) != len(b) {
		return false
	}
	for i, x := range a {
		if x.Name != b[i].Name || len(x.Marks) != len(b[i].Marks) {
			return false
		}
		for k, m := range x.Marks {
			o := b[i].Marks[k]
			if m.Dot.Replica != o.Dot.Replica || m.Dot.Counter != o.Dot.Counter || m.Qty != o.Qty || m.Time != o.Time {
				return false
			}
		}
	}
	return true
}

// deep returns items that share no memory with others, so that they stay what they were.
func deep(l []api.Item) []api.Item {
	var out []api.Item
	for _, x := range l {
		out = append(out, item(strings.Clone(x.Name), append([]api.Mark{}, x.Marks...)...))
	}
	return out
}

// isName is whether a string is the name of an item, by the definition.
func isName(s string) bool { return len(s) <= 64 && words.MatchString(s) }

// words are words with single spaces between them.
var words = regexp.MustCompile(`^[!-~]+( [!-~]+)*$`)

// isMark is whether a mark is valid, by the definition.
func isMark(m api.Mark) bool {
	return m.Dot.Replica > 0 && m.Dot.Replica < 65536 && m.Dot.Counter > 0 && m.Dot.Counter < 1<<32 && m.Qty > 0 && m.Qty < 1<<31 && m.Time > 0
}

// isItem is whether an item is valid, by the definition: each of its dots comes before all that are behind it.
func isItem(x api.Item) bool {
	for i, m := range x.Marks {
		if !isMark(m) {
			return false
		}
		for _, o := range x.Marks[i+1:] {
			if m.Dot.Counter > o.Dot.Counter || m.Dot.Counter == o.Dot.Counter && m.Dot.Replica >= o.Dot.Replica {
				return false
			}
		}
	}
	return isName(x.Name) && len(x.Marks) > 0
}

// before is whether a name comes before another one, byte by byte.
func before(a, b string) bool {
	for i := range len(b) {
		if i == len(a) || a[i] < b[i] {
			return true
		}
		if a[i] > b[i] {
			return false
		}
	}
	return false
}

// has is whether an item has a mark with a dot, and share whether two items have marks with the same dot.
func has(x api.Item, d api.Dot) bool {
	return slices.ContainsFunc(x.Marks, func(m api.Mark) bool { return m.Dot == d })
}
func share(x, y api.Item) bool {
	return slices.ContainsFunc(x.Marks, func(m api.Mark) bool { return has(y, m.Dot) })
}

// areItems is whether items are valid, by the definition: each pair of them.
func areItems(l []api.Item) bool {
	for i, x := range l {
		if !isItem(x) {
			return false
		}
		for _, y := range l[i+1:] {
			if !before(x.Name, y.Name) || share(x, y) {
				return false
			}
		}
	}
	return true
}

// putOf is what Put returns, by the definition.
func putOf(l []api.Item, x api.Item) ([]api.Item, api.Errno) {
	if !areItems(l) || !isItem(x) {
		return nil, api.ErrArg
	}
	var first, second []api.Item
	for _, y := range l {
		switch {
		case y.Name == x.Name:
		case share(x, y):
			return nil, api.ErrBusy
		case before(y.Name, x.Name):
			first = append(first, y)
		default:
			second = append(second, y)
		}
	}
	return deep(slices.Concat(first, of(x), second)), api.OK
}

// removeOf is what Remove returns, by the definition.
func removeOf(l []api.Item, name string) ([]api.Item, api.Errno) {
	if !areItems(l) {
		return nil, api.ErrArg
	}
	var rest []api.Item
	for _, y := range l {
		if y.Name != name {
			rest = append(rest, y)
		}
	}
	if len(rest) == len(l) {
		return nil, api.ErrNone
	}
	return deep(rest), api.OK
}

// qtyOf is what Qty returns, by the definition: the quantity of the mark with the greatest time, and of those with the greatest replica, and of those with the greatest counter.
func qtyOf(x api.Item) (int, api.Errno) {
	if !isItem(x) {
		return 0, api.ErrArg
	}
	most := x.Marks[0]
	for _, m := range x.Marks {
		if m.Time > most.Time || m.Time == most.Time && (m.Dot.Replica > most.Dot.Replica || m.Dot.Replica == most.Dot.Replica && m.Dot.Counter > most.Dot.Counter) {
			most = m
		}
	}
	return most.Qty, api.OK
}

// dotsOf is what Dots returns, by the definition: always the first one of the dots that are left.
func dotsOf(l []api.Item) []api.Dot {
	var left, out []api.Dot
	for _, x := range l {
		for _, m := range x.Marks {
			left = append(left, m.Dot)
		}
	}
	for len(left) > 0 {
		first := left[0]
		for _, d := range left {
			if d.Counter < first.Counter || d.Counter == first.Counter && d.Replica < first.Replica {
				first = d
			}
		}
		out = append(out, first)
		left = slices.DeleteFunc(left, func(d api.Dot) bool { return d == first })
	}
	return out
}

// Some valid items, which go together.
var (
	tea = item("Tea", mark(1, 1, 5, 3))
	nut = item("Nut", mark(2, 1, 7, 4), mark(1, 2, 2, 9))
	oil = item("Oil", mark(3, 1, 1, 1))
)

// letters are as many items as there are letters, in order, some with several marks.
func letters() []api.Item {
	var out []api.Item
	for i := range 26 {
		x := item(string(rune('a'+i)), mark(1+i, 1, 1+i, 3))
		for k := range i % 4 {
			x.Marks = append(x.Marks, mark(1+i, 2+k, 9+k, uint64(2+k)))
		}
		out = append(out, x)
	}
	return out
}

// wrong are items that are not valid, most of them by one thing alone.
func wrong() []api.Item {
	one := mark(7, 7, 7, 7)
	out := []api.Item{
		{}, item("Tea"), item("", one), item(" Tea", one), item("Tea ", one), item(" ", one), item("Red  tea", one), item("Tea\n", one), item("Red\ttea", one), item("Th\u00e9", one), item("\xff", one), item("\x00", one), item("\x7f", one), item(strings.Repeat("t", 65), one),
		// Marks that are not a list: the same dot twice, beside each other and apart, also as a whole, and out of order.
		item("Tea", one, one), item("Tea", one, mark(7, 7, 8, 8)), item("Tea", mark(6, 7, 1, 1), one, one), item("Tea", one, mark(8, 7, 1, 1), one), item("Tea", mark(7, 8, 1, 1), one), item("Tea", mark(8, 7, 1, 1), one), item("Tea", mark(1, 1, 1, 1), mark(7, 8, 1, 1), one),
	}
	for _, bad := range []api.Mark{{}, mark(0, 7, 7, 7), mark(7, 0, 7, 7), mark(7, 7, 0, 7), mark(7, 7, 7, 0), mark(-1, 7, 7, 7), mark(7, -1, 7, 7), mark(7, 7, -1, 7), mark(65536, 7, 7, 7), mark(7, 4294967296, 7, 7), mark(7, 7, 2147483648, 7), mark(math.MaxInt, 7, 7, 7), mark(7, math.MaxInt, 7, 7), mark(7, 7, math.MaxInt, 7), mark(7, math.MinInt, 7, 7)} {
		out = append(out, item("Tea", bad))
		// In front of a good one or behind it, where the order of the dots is right.
		if bad.Dot.Counter < 8 {
			out = append(out, item("Tea", bad, mark(7, 8, 7, 7)))
		}
		if bad.Dot.Counter > 6 {
			out = append(out, item("Tea", mark(7, 6, 7, 7), bad))
		}
	}
	return out
}

// few are items of which some go together: names that are equal or begin with each other, dots that are shared, and items that are not valid.
func few() []api.Item {
	return []api.Item{
		item("a", mark(1, 1, 5, 3)), item("a", mark(3, 1, 9, 9), mark(1, 2, 2, 9)), item("a b", mark(2, 1, 7, 4)), item("ab", mark(1, 1, 5, 3), mark(2, 2, 1, 1)), item("B", mark(1, 3, 1, 1)), item("b", mark(2, 1, 1, 8), mark(1, 3, 2, 2)), item("c", mark(5, 5, 5, 5)),
		item("c"), item("", mark(5, 5, 5, 5)), item(" c", mark(5, 6, 5, 5)), item("c", mark(1, 4, 0, 1)), item("c", mark(1, 6, 5, 3), mark(1, 5, 5, 3)), item("c", mark(2, 1, 5, 3), mark(2, 1, 6, 4)),
	}
}

// P9.1: lists that are known.
func TestKnownValid(t *testing.T) {
	one, two := mark(1, 1, 1, 1), mark(1, 2, 1, 1)
	for i, c := range []struct {
		l    []api.Item
		want bool
	}{
		{nil, true}, {of(), true}, {of(tea), true}, {of(nut), true}, {of(nut, tea), true}, {of(nut, oil, tea), true}, {letters(), true},
		{of(tea, nut), false}, {of(tea, tea), false}, {of(nut, tea, oil), false}, {of(oil, nut, tea), false},
		// Equal names, in front, behind and apart, whatever the marks are.
		{of(item("a", one), item("a", two)), false}, {of(item("a", one), item("b", two), item("b", mark(1, 3, 1, 1))), false}, {of(item("a", one), item("b", two), item("a", mark(1, 3, 1, 1))), false},
		// One is a beginning of the other one, and the order is that of the bytes.
		{of(item("a", one), item("ab", two)), true}, {of(item("ab", one), item("a", two)), false}, {of(item("a", one), item("a b", two)), true}, {of(item("a b", one), item("ab", two)), true}, {of(item("ab", one), item("a b", two)), false},
		{of(item("Z", one), item("a", two)), true}, {of(item("a", one), item("Z", two)), false}, {of(item("10", one), item("9", two)), true}, {of(item("9", one), item("10", two)), false}, {of(item("!", one), item("~", two)), true},
		{of(item(strings.Repeat("t", 63), one), item(strings.Repeat("t", 64), two)), true}, {of(item(strings.Repeat("t", 64), one)), true}, {of(item("x", mark(65535, 4294967295, 2147483647, math.MaxUint64))), true},
		// The same dot in two items, beside each other and apart, in a mark that is otherwise different, at different places.
		{of(item("a", one), item("b", one)), false}, {of(item("a", one), item("b", mark(1, 1, 2, 2))), false}, {of(item("a", one), item("b", two), item("c", one)), false},
		{of(item("a", one, two), item("b", two)), false}, {of(item("a", two), item("b", one, two)), false}, {of(item("a", one), item("b", one, two)), false}, {of(item("a", one, mark(1, 3, 1, 1)), item("b", two, mark(1, 3, 1, 1))), false},
		{of(item("a", one), item("b", mark(2, 1, 1, 1)), item("c", two)), true}, {of(item("a", two), item("b", one)), true},
		// One item is wrong, and it is not the first one.
		{of(item("a", one), item("b")), false}, {of(item("a"), item("b", one)), false}, {of(item("a", one), item("b "), item("c", two)), false}, {of(item("", one), item("a", two)), false},
	} {
		if is := Valid(c.l); is != c.want {
			t.Error(i, c.l, is)
		}
	}
}

// P9.1: an item that is not valid, alone and at each place among others, which are valid.
func TestInvalid(t *testing.T) {
	for _, bad := range wrong() {
		if isItem(bad) {
			t.Fatal(bad)
		}
		for _, good := range [][]api.Item{nil, of(nut, oil), of(nut, oil, item("Zoo", mark(9, 9, 9, 9)))} {
			for at := range len(good) + 1 {
				if l := slices.Insert(slices.Clone(good), at, bad); Valid(l) {
					t.Error(l)
				}
			}
		}
	}
}

// P9.1: all short lists of some items, valid and not, by the definition.
func TestValid(t *testing.T) {
	valid := 0
	for _, l := range lists(4, few()...) {
		if is := Valid(l); is != areItems(l) {
			t.Fatal(l, is)
		} else if is {
			valid++
		}
	}
	if valid < 20 {
		t.Error(valid)
	}
}

// P9.1: which strings are names, each byte at each place of a short one, by the definition.
func TestValidNames(t *testing.T) {
	for b := range 256 {
		c := string([]byte{byte(b)})
		for _, name := range []string{c, c + "a", "a" + c, "a" + c + "b", "a " + c, c + " a", c + c} {
			if is := Valid(of(item(name, mark(1, 1, 1, 1)))); is != isName(name) {
				t.Errorf("%q %v", name, is)
			}
		}
	}
}

// changes are lists that differ from one, which has at least two items with two marks each, in one part alone.
func changes(l []api.Item) [][]api.Item {
	var out [][]api.Item
	change := func(f func(l []api.Item) []api.Item) { out = append(out, f(deep(l))) }
	for i := range l {
		change(func(l []api.Item) []api.Item { l[i].Name += "x"; return l })
		change(func(l []api.Item) []api.Item { l[i].Name = strings.ToLower(l[i].Name); return l })
		change(func(l []api.Item) []api.Item { l[i].Name = ""; return l })
		change(func(l []api.Item) []api.Item { l[i].Marks = nil; return l })
		change(func(l []api.Item) []api.Item { l[i].Marks = l[i].Marks[:1]; return l })
		change(func(l []api.Item) []api.Item { l[i].Marks = l[i].Marks[1:]; return l })
		change(func(l []api.Item) []api.Item { l[i].Marks = append(l[i].Marks, l[i].Marks[1]); return l })
		change(func(l []api.Item) []api.Item { slices.Reverse(l[i].Marks); return l })
		change(func(l []api.Item) []api.Item { return slices.Delete(l, i, i+1) })
		change(func(l []api.Item) []api.Item { return slices.Insert(l, i, l[i]) })
		change(func(l []api.Item) []api.Item { return slices.Insert(l, i, api.Item{}) })
		for k := range l[i].Marks {
			for _, by := range []int{-1, 1, 1 << 32, math.MinInt} {
				change(func(l []api.Item) []api.Item { l[i].Marks[k].Dot.Replica += by; return l })
				change(func(l []api.Item) []api.Item { l[i].Marks[k].Dot.Counter += by; return l })
				change(func(l []api.Item) []api.Item { l[i].Marks[k].Qty += by; return l })
				change(func(l []api.Item) []api.Item { l[i].Marks[k].Time += uint64(by); return l })
			}
		}
	}
	change(func(l []api.Item) []api.Item { slices.Reverse(l); return l })
	change(func(l []api.Item) []api.Item { return append(l, api.Item{}) })
	change(func(l []api.Item) []api.Item { return nil })
	return out
}

// P9.1: lists that differ in one part alone are not equal, and lists of which each part is equal are, also if they are not valid.
func TestEqual(t *testing.T) {
	for _, l := range [][]api.Item{
		of(nut, item("Tea", mark(1, 1, 5, 3), mark(1, 3, 5, 3))), of(item("Tea", mark(1, 1, 5, 3), mark(1, 3, 5, 3)), nut),
		of(item("B\xff ", mark(-1, 0, -5, 0), mark(-1, 0, -4, 0)), nut, item("B", mark(9, 9, 9, 9), mark(1, 1, 1, 1))),
	} {
		if !Equal(l, l) || !Equal(l, deep(l)) || !Equal(deep(l), l) {
			t.Error(l)
		}
		for _, other := range changes(l) {
			if alike(l, other) {
				t.Fatal(l, other)
			}
			if Equal(l, other) || Equal(other, l) || !Equal(other, deep(other)) {
				t.Error(l, other)
			}
		}
	}
}

// P9.1: all pairs of short lists, and lists that are nil or empty.
func TestEqualPairs(t *testing.T) {
	all := lists(2, few()...)
	for _, a := range all {
		for _, b := range all {
			if is := Equal(a, b); is != alike(a, b) {
				t.Fatal(a, b, is)
			}
		}
	}
	for i, c := range []struct {
		a, b []api.Item
		want bool
	}{
		{nil, of(), true}, {of(), nil, true}, {nil, nil, true}, {of(api.Item{}), nil, false}, {nil, of(api.Item{}), false},
		{of(item("a")), of(api.Item{Name: "a", Marks: []api.Mark{}}), true}, {of(api.Item{}), of(api.Item{Marks: []api.Mark{}}), true}, {of(api.Item{}), of(api.Item{}, api.Item{}), false},
	} {
		if is := Equal(c.a, c.b); is != c.want {
			t.Error(i, is)
		}
	}
}

// P9.1: a copy is equal, also of items that are not valid.
func TestCopy(t *testing.T) {
	for _, l := range append(lists(3, few()...), of(), letters(), wrong(), of(api.Item{Marks: []api.Mark{}})) {
		if x := Copy(l); !alike(x, l) || !Equal(x, l) {
			t.Fatal(l, x)
		}
	}
}

// P9.2: lists that are known; of several items the first one is taken, and items need not be valid.
func TestKnownFind(t *testing.T) {
	other := item("Tea", mark(9, 9, 9, 9))
	for i, c := range []struct {
		l    []api.Item
		name string
		want api.Item
		err  api.Errno
	}{
		{of(nut, tea), "Tea", tea, api.OK}, {of(nut, tea), "Nut", nut, api.OK}, {of(nut, oil, tea), "Oil", oil, api.OK}, {letters(), "a", letters()[0], api.OK}, {letters(), "z", letters()[25], api.OK},
		{nil, "Tea", api.Item{}, api.ErrNone}, {of(), "", api.Item{}, api.ErrNone}, {of(nut, tea), "Oil", api.Item{}, api.ErrNone}, {of(nut, tea), "Zoo", api.Item{}, api.ErrNone}, {of(nut, tea), "Apple", api.Item{}, api.ErrNone},
		{of(nut, tea), "tea", api.Item{}, api.ErrNone}, {of(nut, tea), "Te", api.Item{}, api.ErrNone}, {of(nut, tea), "Teas", api.Item{}, api.ErrNone}, {of(nut, tea), "Tea ", api.Item{}, api.ErrNone}, {of(nut, tea), "", api.Item{}, api.ErrNone},
		// Items that are not valid.
		{of(tea, nut), "Nut", nut, api.OK}, {of(tea, other), "Tea", tea, api.OK}, {of(nut, other, tea), "Tea", other, api.OK}, {of(tea, other, tea, nut), "Nut", nut, api.OK}, {of(item("Tea"), tea), "Tea", item("Tea"), api.OK},
		{of(tea, api.Item{}), "", api.Item{}, api.OK}, {of(tea, item("", mark(0, 0, 0, 0))), "", item("", mark(0, 0, 0, 0)), api.OK}, {of(item("\xff ", mark(1, 2, 0, 0), mark(1, 1, 1, 1))), "\xff ", item("\xff ", mark(1, 2, 0, 0), mark(1, 1, 1, 1)), api.OK},
	} {
		if x, err := Find(c.l, c.name); !alike(of(x), of(c.want)) || err != c.err {
			t.Error(i, x, err)
		}
	}
}

// P9.2: dots that are known; of several items the first one is taken, and neither items nor dots need be valid.
func TestKnownOwner(t *testing.T) {
	for i, c := range []struct {
		l    []api.Item
		d    api.Dot
		want string
		err  api.Errno
	}{
		{of(nut, tea), api.Dot{Replica: 1, Counter: 2}, "Nut", api.OK}, {of(nut, tea), api.Dot{Replica: 2, Counter: 1}, "Nut", api.OK}, {of(nut, tea), api.Dot{Replica: 1, Counter: 1}, "Tea", api.OK}, {of(nut, oil, tea), api.Dot{Replica: 3, Counter: 1}, "Oil", api.OK},
		{of(nut, tea), api.Dot{Replica: 1, Counter: 3}, "", api.ErrNone}, {of(nut, tea), api.Dot{Replica: 3, Counter: 1}, "", api.ErrNone}, {nil, api.Dot{Replica: 1, Counter: 1}, "", api.ErrNone}, {of(item("a")), api.Dot{}, "", api.ErrNone}, {of(nut), api.Dot{}, "", api.ErrNone},
		// Items that are not valid.
		{of(tea, nut, item("Zoo", mark(1, 1, 9, 9))), api.Dot{Replica: 1, Counter: 1}, "Tea", api.OK}, {of(item("Zoo", mark(1, 1, 9, 9)), tea), api.Dot{Replica: 1, Counter: 1}, "Zoo", api.OK}, {of(item("a"), item("b", mark(2, 2, 1, 1), mark(1, 1, 9, 9)), tea), api.Dot{Replica: 1, Counter: 1}, "b", api.OK},
		{of(tea, item("", mark(2, 2, 1, 1))), api.Dot{Replica: 2, Counter: 2}, "", api.OK}, {of(tea, item("\xff", mark(0, 0, 0, 0))), api.Dot{}, "\xff", api.OK}, {of(item("x", mark(-1, math.MinInt, 0, 0))), api.Dot{Replica: -1, Counter: math.MinInt}, "x", api.OK},
	} {
		if name, err := Owner(c.l, c.d); name != c.want || err != c.err {
			t.Error(i, name, err)
		}
	}
}

// P9.2: dots that are known: a set, whatever the order of the items and of their marks is, and dots that are there twice or not valid.
func TestKnownDots(t *testing.T) {
	for i, c := range []struct {
		l    []api.Item
		want []api.Dot
	}{
		{nil, nil}, {of(), nil}, {of(api.Item{}), nil}, {of(item("a"), item("b")), nil},
		{of(tea), []api.Dot{{Replica: 1, Counter: 1}}}, {of(nut, tea), []api.Dot{{Replica: 1, Counter: 1}, {Replica: 2, Counter: 1}, {Replica: 1, Counter: 2}}}, {of(tea, nut), []api.Dot{{Replica: 1, Counter: 1}, {Replica: 2, Counter: 1}, {Replica: 1, Counter: 2}}},
		{of(tea, tea, nut, tea), []api.Dot{{Replica: 1, Counter: 1}, {Replica: 2, Counter: 1}, {Replica: 1, Counter: 2}}}, {of(tea, item("Zoo", mark(1, 1, 9, 9))), []api.Dot{{Replica: 1, Counter: 1}}},
		{of(item("a", mark(1, 2, 1, 1), mark(1, 1, 1, 1), mark(1, 2, 3, 3))), []api.Dot{{Replica: 1, Counter: 1}, {Replica: 1, Counter: 2}}},
		{of(item("", mark(0, 0, 0, 0)), item("", mark(5, -1, 0, 0))), []api.Dot{{Replica: 5, Counter: -1}, {}}},
	} {
		if dots := Dots(c.l); !slices.Equal(dots, c.want) {
			t.Error(i, dots)
		}
	}
}

// P9.2: all short lists of items, valid and not, by the definition.
func TestFindOwnerAndDots(t *testing.T) {
	for _, l := range lists(3, few()...) {
		for _, name := range []string{"a", "a b", "ab", "B", "b", "c", "", " c", "d"} {
			at := slices.IndexFunc(l, func(x api.Item) bool { return x.Name == name })
			x, err := Find(l, name)
			if at < 0 && (!alike(of(x), of(api.Item{})) || err != api.ErrNone) || at >= 0 && (!alike(of(x), l[at:at+1]) || err != api.OK) {
				t.Fatal(l, name, x, err)
			}
		}
		dots := dotsOf(l)
		if got := Dots(l); !slices.Equal(got, dots) {
			t.Fatal(l, got)
		}
		for _, d := range append(dots, api.Dot{}, api.Dot{Replica: 1, Counter: 9}, api.Dot{Replica: 9, Counter: 1}) {
			at := slices.IndexFunc(l, func(x api.Item) bool { return has(x, d) })
			name, err := Owner(l, d)
			if at < 0 && (name != "" || err != api.ErrNone) || at >= 0 && (name != l[at].Name || err != api.OK) {
				t.Fatal(l, d, name, err)
			}
		}
	}
}

// P9.3: calls of Put that are known, and the errors in their order.
func TestKnownPut(t *testing.T) {
	red, same := item("Tea", mark(3, 1, 1, 1)), item("Tea", mark(1, 1, 9, 9))
	for i, c := range []struct {
		l    []api.Item
		x    api.Item
		want []api.Item
		err  api.Errno
	}{
		{nil, tea, of(tea), api.OK}, {of(), nut, of(nut), api.OK}, {of(tea), nut, of(nut, tea), api.OK}, {of(nut), tea, of(nut, tea), api.OK}, {of(nut, tea), oil, of(nut, oil, tea), api.OK},
		{of(item("a", mark(1, 1, 1, 1)), item("ab", mark(1, 2, 1, 1))), item("a b", mark(1, 3, 1, 1)), of(item("a", mark(1, 1, 1, 1)), item("a b", mark(1, 3, 1, 1)), item("ab", mark(1, 2, 1, 1))), api.OK},
		{of(item("ab", mark(1, 1, 1, 1))), item("a", mark(1, 2, 1, 1)), of(item("a", mark(1, 2, 1, 1)), item("ab", mark(1, 1, 1, 1))), api.OK}, {of(item("a", mark(1, 1, 1, 1))), item("Z", mark(1, 2, 1, 1)), of(item("Z", mark(1, 2, 1, 1)), item("a", mark(1, 1, 1, 1))), api.OK},
		// In the place of one, with other dots, with the same ones, with some of them, and with nothing changed.
		{of(nut, tea), red, of(nut, red), api.OK}, {of(tea), same, of(same), api.OK}, {of(nut, tea), same, of(nut, same), api.OK}, {of(nut, tea), tea, of(nut, tea), api.OK}, {of(nut, tea), nut, of(nut, tea), api.OK},
		{of(nut, tea), item("Nut", mark(1, 2, 3, 3)), of(item("Nut", mark(1, 2, 3, 3)), tea), api.OK}, {of(nut, tea), item("Nut", mark(2, 1, 1, 1), mark(1, 2, 1, 1), mark(9, 9, 1, 1)), of(item("Nut", mark(2, 1, 1, 1), mark(1, 2, 1, 1), mark(9, 9, 1, 1)), tea), api.OK},
		// A dot of another item, at its first and last place, one of several, of a new item and of one that is there.
		{of(tea), item("Oil", mark(1, 1, 1, 1)), nil, api.ErrBusy}, {of(nut, oil), red, nil, api.ErrBusy}, {of(nut, tea), item("Oil", mark(1, 2, 8, 8)), nil, api.ErrBusy}, {of(nut, tea), item("Oil", mark(2, 1, 8, 8)), nil, api.ErrBusy}, {of(nut, tea), item("Tea", mark(1, 1, 5, 3), mark(1, 2, 1, 1)), nil, api.ErrBusy},
		{of(nut, tea), item("Oil", mark(3, 1, 1, 1), mark(1, 2, 1, 1), mark(9, 9, 9, 9)), nil, api.ErrBusy}, {of(nut, oil, tea), item("Nut", mark(1, 1, 1, 1)), nil, api.ErrBusy}, {of(nut, oil, tea), item("Zoo", mark(1, 1, 1, 1)), nil, api.ErrBusy}, {of(nut, oil, tea), item("Ale", mark(1, 1, 1, 1)), nil, api.ErrBusy},
		// Not valid: the items, the item, and both; also where a dot is that of another item.
		{of(tea, nut), oil, nil, api.ErrArg}, {of(tea), item("Oil"), nil, api.ErrArg}, {of(tea), item(" Oil", mark(1, 1, 1, 1)), nil, api.ErrArg}, {of(tea, nut), item("Oil"), nil, api.ErrArg}, {nil, api.Item{}, nil, api.ErrArg}, {nil, item("", mark(1, 1, 1, 1)), nil, api.ErrArg}, {of(api.Item{}), tea, nil, api.ErrArg},
		{of(tea, nut), item("Oil", mark(1, 1, 1, 1)), nil, api.ErrArg}, {of(tea), item("Oil", mark(1, 1, 0, 1)), nil, api.ErrArg}, {of(tea), item("Oil", mark(1, 2, 1, 1), mark(1, 1, 1, 1)), nil, api.ErrArg}, {of(tea), item("Oil", mark(1, 1, 1, 1), mark(1, 1, 1, 1)), nil, api.ErrArg},
		// What is not valid is the item that would be replaced, or it would be valid with the new one.
		{of(item("Tea")), tea, nil, api.ErrArg}, {of(nut, item("Tea", mark(1, 2, 1, 1))), tea, nil, api.ErrArg}, {of(nut, tea, tea), red, nil, api.ErrArg},
	} {
		if l, err := Put(c.l, c.x); !alike(l, c.want) || err != c.err {
			t.Error(i, l, err)
		}
	}
}

// P9.3: calls of Remove that are known, and the errors in their order.
func TestKnownRemove(t *testing.T) {
	for i, c := range []struct {
		l    []api.Item
		name string
		want []api.Item
		err  api.Errno
	}{
		{of(nut, oil, tea), "Oil", of(nut, tea), api.OK}, {of(nut, oil, tea), "Nut", of(oil, tea), api.OK}, {of(nut, oil, tea), "Tea", of(nut, oil), api.OK}, {of(tea), "Tea", nil, api.OK}, {letters(), "z", letters()[:25], api.OK}, {letters(), "a", letters()[1:], api.OK},
		{of(nut, tea), "Oil", nil, api.ErrNone}, {of(nut, tea), "Ale", nil, api.ErrNone}, {of(nut, tea), "Zoo", nil, api.ErrNone}, {nil, "Oil", nil, api.ErrNone}, {of(), "", nil, api.ErrNone},
		{of(nut, tea), "", nil, api.ErrNone}, {of(nut, tea), "Te", nil, api.ErrNone}, {of(nut, tea), "Teas", nil, api.ErrNone}, {of(nut, tea), "tea", nil, api.ErrNone}, {of(nut, tea), "Tea ", nil, api.ErrNone}, {of(nut, tea), "\xff", nil, api.ErrNone},
		// Not valid, with the name and without it; also where the rest would be valid.
		{of(tea, nut), "Tea", nil, api.ErrArg}, {of(tea, nut), "Oil", nil, api.ErrArg}, {of(tea, tea), "Tea", nil, api.ErrArg}, {of(nut, item("Tea")), "Tea", nil, api.ErrArg}, {of(nut, item("Tea", mark(1, 2, 1, 1))), "Tea", nil, api.ErrArg}, {of(api.Item{}), "", nil, api.ErrArg}, {of(item("Tea")), "Nut", nil, api.ErrArg},
	} {
		if l, err := Remove(c.l, c.name); !alike(l, c.want) || err != c.err {
			t.Error(i, l, err)
		}
	}
}

// P9.3 and P9.5: all short lists and items, valid and not, by the definition; what is returned is valid.
func TestPutAndRemove(t *testing.T) {
	for _, l := range lists(3, few()...) {
		for _, x := range few() {
			want, wrong := putOf(l, x)
			made, err := Put(l, x)
			if !alike(made, want) || err != wrong || err == api.OK && !areItems(made) {
				t.Fatal(l, x, made, err)
			}
			want, wrong = removeOf(l, x.Name)
			made, err = Remove(l, x.Name)
			if !alike(made, want) || err != wrong || err == api.OK && !areItems(made) {
				t.Fatal(l, x.Name, made, err)
			}
		}
	}
}

// P9.3: an item that is not valid, put anywhere or already there; what is wrong counts before a dot of another item, and before a name that is not there.
func TestErrorsInOrder(t *testing.T) {
	good := of(item("Ale", mark(7, 7, 7, 7)), nut, oil)
	for _, bad := range wrong() {
		for _, l := range [][]api.Item{nil, of(tea), good} {
			if made, err := Put(l, bad); made != nil || err != api.ErrArg {
				t.Error(l, bad, made, err)
			}
		}
		for at := range len(good) + 1 {
			l := slices.Insert(slices.Clone(good), at, bad)
			for _, x := range []api.Item{tea, oil, bad, item("Oil", mark(7, 7, 7, 7)), item("Tea", mark(2, 1, 1, 1))} {
				if made, err := Put(l, x); made != nil || err != api.ErrArg {
					t.Error(l, x, made, err)
				}
				if made, err := Remove(l, x.Name); made != nil || err != api.ErrArg {
					t.Error(l, x.Name, made, err)
				}
			}
			if made, err := Remove(l, "Zoo"); made != nil || err != api.ErrArg {
				t.Error(l, made, err)
			}
		}
		if n, err := Qty(bad); n != 0 || err != api.ErrArg {
			t.Error(bad, n, err)
		}
	}
}

// P9.4: quantities that are known.
func TestKnownQty(t *testing.T) {
	for i, c := range []struct {
		x    api.Item
		want int
		err  api.Errno
	}{
		{tea, 5, api.OK}, {nut, 2, api.OK}, {oil, 1, api.OK}, {item("x", mark(1, 1, 2147483647, 1)), 2147483647, api.OK},
		// The newest mark stands in front, in the middle and behind; the time counts first, then the replica, then the counter.
		{item("x", mark(2, 1, 7, 4), mark(9, 1, 3, 3)), 7, api.OK}, {item("x", mark(2, 1, 7, 4), mark(9, 1, 3, 4)), 3, api.OK}, {item("x", mark(1, 1, 1, 1), mark(2, 1, 2, 9), mark(1, 2, 3, 8)), 2, api.OK}, {item("x", mark(9, 1, 7, 4), mark(2, 2, 3, 4)), 7, api.OK},
		{item("x", mark(2, 1, 7, 4), mark(2, 2, 3, 4)), 3, api.OK}, {item("x", mark(2, 1, 7, 5), mark(2, 2, 3, 4)), 7, api.OK}, {item("x", mark(1, 1, 9, 1), mark(1, 2, 1, math.MaxUint64), mark(1, 3, 5, math.MaxUint64-1)), 1, api.OK},
		{item("Tea"), 0, api.ErrArg}, {api.Item{}, 0, api.ErrArg}, {item("", mark(1, 1, 1, 1)), 0, api.ErrArg}, {item("x ", mark(1, 1, 1, 1)), 0, api.ErrArg}, {item("x", mark(1, 1, 1, 1), mark(1, 2, 0, 1)), 0, api.ErrArg}, {item("x", mark(1, 2, 2, 9), mark(2, 1, 7, 4)), 0, api.ErrArg}, {item("x", mark(1, 1, 1, 1), mark(1, 1, 1, 1)), 0, api.ErrArg},
	} {
		if n, err := Qty(c.x); n != c.want || err != c.err {
			t.Error(i, n, err)
		}
	}
}

// P9.4: all short lists of marks, valid and not, by the definition.
func TestQty(t *testing.T) {
	for _, marks := range lists(4, mark(1, 1, 5, 3), mark(2, 1, 7, 4), mark(3, 1, 6, 4), mark(1, 2, 9, 3), mark(2, 2, 8, 4), mark(1, 3, 1, 9), mark(2, 3, 2, math.MaxUint64), mark(2, 4, 0, 9), mark(2, 0, 3, 9), mark(1, 4, 3, 0)) {
		for _, name := range []string{"Tea", "", "Tea "} {
			x := item(name, marks...)
			want, wrong := qtyOf(x)
			if n, err := Qty(x); n != want || err != wrong {
				t.Fatal(x, n, err)
			}
		}
	}
}

// P9.5: the same items, put in all orders, one by one, are the same items, also if each is put twice; and they are removed in all orders.
func TestAllOrders(t *testing.T) {
	l := of(item("B", mark(1, 3, 1, 1)), item("a", mark(1, 1, 5, 3), mark(2, 2, 5, 3)), item("a b", mark(2, 1, 7, 4)), item("ab", mark(3, 1, 5, 3), mark(3, 2, 1, 1)), item("b", mark(4, 1, 1, 1)), item("b b", mark(4, 2, 1, 1)))
	for _, o := range orders(l) {
		var made []api.Item
		for i, x := range slices.Concat(o, o) {
			put, err := Put(made, x)
			if err != api.OK || !areItems(put) || len(put) != min(i+1, len(l)) {
				t.Fatal(o, put, err)
			}
			made = put
		}
		if !alike(made, l) {
			t.Fatal(o, made)
		}
		for i, x := range o {
			left, err := Remove(made, x.Name)
			if err != api.OK || !areItems(left) || len(left) != len(l)-i-1 {
				t.Fatal(o, left, err)
			}
			made = left
		}
	}
}

// random returns valid items, always the same ones with a source in the same state.
func random(r *rand.Rand, size int) []api.Item {
	var out []api.Item
	for range size {
		x := item("Item "+strconv.Itoa(r.Intn(2*size)), mark(1+r.Intn(9), 1+r.Intn(99), 1+r.Intn(9), 1+uint64(r.Intn(9))))
		for r.Intn(2) == 0 {
			x.Marks = append(x.Marks, mark(1+r.Intn(9), x.Marks[len(x.Marks)-1].Dot.Counter+1+r.Intn(9), 1+r.Intn(9), 1+uint64(r.Intn(9))))
		}
		if made, err := putOf(out, x); err == api.OK {
			out = made
		}
	}
	return out
}

// P9.5: after Put, Find returns the item, and each dot of it has it as its owner; after Remove, there is none; and Put and then Remove of a name that was not there gives the items as they were.
func TestConsequences(t *testing.T) {
	r := rand.New(rand.NewSource(9))
	for size := range 40 {
		l := random(r, size)
		if !Valid(l) {
			t.Fatal(l)
		}
		for _, x := range slices.Concat(of(item("Item", mark(10, 1, 1, 1)), item("Item 1", mark(10, 1, 1, 1), mark(1, 999, 2, 2)), item("Zoo", mark(10, 9, 1, 1)), item("!", mark(10, 9, 1, 1))), l) {
			_, missing := Find(l, x.Name)
			put, err := Put(l, x)
			if err != api.OK || !Valid(put) {
				t.Fatal(l, x, put, err)
			}
			if y, err := Find(put, x.Name); !alike(of(y), of(x)) || err != api.OK {
				t.Fatal(l, x, y, err)
			}
			for _, m := range x.Marks {
				if name, err := Owner(put, m.Dot); name != x.Name || err != api.OK {
					t.Fatal(l, x, name, err)
				}
			}
			left, err := Remove(put, x.Name)
			if err != api.OK || !Valid(left) || missing == api.ErrNone && !alike(left, l) {
				t.Fatal(l, x, left, err)
			}
			if y, err := Find(left, x.Name); y.Name != "" || y.Marks != nil || err != api.ErrNone {
				t.Fatal(l, x, y, err)
			}
			if again, err := Remove(left, x.Name); again != nil || err != api.ErrNone {
				t.Fatal(l, x, again, err)
			}
		}
	}
}

// P1: many items and many marks, with what is wrong behind all the others.
func TestLong(t *testing.T) {
	const size = 1 << 17
	l := make([]api.Item, size)
	for i := range l {
		name := strconv.Itoa(1000000 + i)
		l[i] = item(name, mark(1+i%65535, 1+i, 5, 7))
	}
	if !Valid(l) || len(Dots(l)) != size || !Equal(Copy(l), l) {
		t.Error("many items")
	}
	x := item("1", mark(1, size+1, 5, 7))
	if made, err := Put(l, x); len(made) != size+1 || err != api.OK {
		t.Error(len(made), err)
	}
	if made, err := Remove(l, l[size-1].Name); !Equal(made, l[:size-1]) || err != api.OK {
		t.Error(len(made), err)
	}
	x.Marks[0].Dot = l[size-1].Marks[0].Dot
	if made, err := Put(l, x); made != nil || err != api.ErrBusy {
		t.Error(len(made), err)
	}
	l[size-1].Marks[0].Dot = l[0].Marks[0].Dot
	if Valid(l) {
		t.Error("a dot of two items")
	}
	big := api.Item{Name: "Tea"}
	for i := range size {
		big.Marks = append(big.Marks, mark(1, 1+i, 1+i, 7))
	}
	if n, err := Qty(big); n != size || err != api.OK || !Valid(of(big)) {
		t.Error(n, err)
	}
	big.Marks[size-1].Time = 0
	if n, err := Qty(big); n != 0 || err != api.ErrArg || Valid(of(big)) {
		t.Error(n, err)
	}
}

// ask makes all calls with items, an item and its name, and returns the items that they return, each list by itself, and the dots.
func ask(l []api.Item, x api.Item) ([][]api.Item, []api.Dot) {
	found, _ := Find(l, x.Name)
	put, _ := Put(l, x)
	left, _ := Remove(l, x.Name)
	Valid(l)
	Equal(l, of(x))
	Owner(l, x.Marks[0].Dot)
	Qty(x)
	return [][]api.Item{of(found), put, left, Copy(l)}, Dots(l)
}

// spoil changes all that lists of items have, also behind their ends, one list after the other, and reports whether those that come after it, and those before, stay what they are.
func spoil(made [][]api.Item) bool {
	bad := mark(-9, -9, -9, 9)
	for i, l := range made {
		rest := slices.Concat(slices.Concat(made[:i]...), slices.Concat(made[i+1:]...))
		before := deep(rest)
		for k := range l {
			others := slices.Concat(l[:k], l[k+1:])
			stay := deep(others)
			marks := l[k].Marks[:cap(l[k].Marks)]
			for j := range marks {
				marks[j] = bad
			}
			l[k].Name = "spoilt"
			if !alike(others, stay) {
				return false
			}
		}
		full := l[:cap(l)]
		for k := range full {
			full[k] = item("spoilt", bad)
		}
		if !alike(rest, before) {
			return false
		}
	}
	return true
}

// The rules: no call changes its arguments, not even behind their ends, equal calls have equal results, and results share no memory with arguments, with other results or in themselves.
func TestNewMemory(t *testing.T) {
	for size := range 6 {
		for _, x := range []api.Item{tea, nut, oil, item("Ale", mark(8, 8, 8, 8)), item("Zoo", mark(8, 8, 8, 8)), item("c", mark(8, 8, 8, 8)), item("c", mark(3, 1, 3, 3), mark(3, 2, 3, 3)), letters()[0], letters()[3]} {
			// With items behind the end, and marks behind those of each item, a change in the place of the argument would be seen.
			whole := slices.Concat(letters(), letters())
			for i := range whole {
				whole[i].Marks = append(slices.Clone(whole[i].Marks), mark(99, 99, 99, 99))[:len(whole[i].Marks)]
			}
			x = deep(of(x))[0]
			l := whole[:size]
			first, dots := ask(l, x)
			second, others := ask(l, x)
			kept, argument, one := deep(slices.Concat(first...)), deep(whole), deep(of(x))
			if !slices.EqualFunc(first, second, alike) || !slices.Equal(dots, others) || !alike(whole, slices.Concat(letters(), letters())) {
				t.Fatal(l, x, first, second)
			}
			for i := range dots {
				dots[i] = api.Dot{}
			}
			_ = append(dots, api.Dot{}, api.Dot{})
			if !spoil(first) || !alike(whole, argument) || !alike(of(x), one) || !alike(slices.Concat(second...), kept) || !slices.Equal(others, dotsOf(l)) {
				t.Fatal(l, x)
			}
			for i := range whole {
				if marks := whole[i].Marks; marks[:len(marks)+1][len(marks)] != mark(99, 99, 99, 99) {
					t.Fatal(l, x)
				}
			}
			spoil([][]api.Item{whole, of(x)})
			if !alike(slices.Concat(second...), kept) {
				t.Fatal(kept, second)
			}
		}
	}
}

// The rules: an item that is there twice in one argument, or in both, is not shared by the results.
func TestSharedArguments(t *testing.T) {
	l := of(tea, nut, tea)
	made := Copy(l)
	made[0].Marks[0].Qty, made[1].Marks[1].Qty = 99, 99
	if made[2].Marks[0].Qty != 5 || !alike(l, of(item("Tea", mark(1, 1, 5, 3)), item("Nut", mark(2, 1, 7, 4), mark(1, 2, 2, 9)), item("Tea", mark(1, 1, 5, 3)))) {
		t.Error(made, l)
	}
	l = of(nut, tea)
	put, err := Put(l, l[1])
	if err != api.OK || !alike(put, l) {
		t.Fatal(put, err)
	}
	put[0].Marks[0].Qty, put[1].Marks[0].Qty = 99, 99
	if l[0].Marks[0].Qty != 7 || l[1].Marks[0].Qty != 5 {
		t.Error(l)
	}
}

// overlap reports whether two strings share memory.
func overlap(a, b string) bool {
	if a == "" || b == "" {
		return false
	}
	x, y := uintptr(unsafe.Pointer(unsafe.StringData(a))), uintptr(unsafe.Pointer(unsafe.StringData(b)))
	return x < y+uintptr(len(b)) && y < x+uintptr(len(a))
}

// The rules: names share no memory with arguments either.
func TestNewNames(t *testing.T) {
	l := deep(letters())
	x := deep(of(item("Apple", mark(99, 99, 99, 99))))[0]
	made, _ := ask(l, x)
	for _, y := range l {
		found, _ := Find(l, y.Name)
		owner, _ := Owner(l, y.Marks[0].Dot)
		made = append(made, of(found, item(owner)))
	}
	for _, name := range slices.Concat(made...) {
		for _, y := range append(l, x) {
			if overlap(name.Name, y.Name) {
				t.Error(name.Name)
			}
		}
	}
}
