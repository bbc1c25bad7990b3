package qty

import (
	"encoding/binary"
	"math"
	"math/big"
	"math/rand"
	"slices"
	"strings"
	"testing"

	"pannier/api"
)

// mark returns the mark of a dot with a quantity and a time.
func mark(replica, counter, q int, time uint64) api.Mark {
	return api.Mark{Dot: api.Dot{Replica: replica, Counter: counter}, Qty: q, Time: time}
}

// lists are all lists of at most some things out of a few.
func lists[T any](most int, few ...T) [][]T {
	out := [][]T{nil}
	for from, n := 0, 0; n < most; n++ {
		to := len(out)
		for _, l := range out[from:to] {
			for _, x := range few {
				out = append(out, append(slices.Clone(l), x))
			}
		}
		from = to
	}
	return out
}

// orders are all lists of the things of a list, each of them in another order.
func orders[T any](l []T) [][]T {
	if len(l) == 0 {
		return [][]T{nil}
	}
	var out [][]T
	for i := range l {
		rest := slices.Delete(slices.Clone(l), i, i+1)
		for _, o := range orders(rest) {
			out = append(out, append(o, l[i]))
		}
	}
	return out
}

// numbers are quantities and others, at the limits and where a sum goes around in 32 or in 64 bits.
func numbers() []int {
	return []int{math.MinInt, -2147483648, -1, 0, 1, 2, 3, 1073741823, 1073741824, 2147483646, 2147483647, 2147483648, 4294967295, 4294967296, 4294967297, math.MaxInt}
}

// isQty is whether a number is a quantity, by the definition.
func isQty(q int) bool { return q > 0 && q < 1<<31 }

// summed is what Sum returns of a list, by the definition, with numbers that have no limit.
func summed(l []int) (int, api.Errno) {
	sum := new(big.Int)
	for _, q := range l {
		if !isQty(q) {
			return 0, api.ErrQty
		}
		sum.Add(sum, big.NewInt(int64(q)))
	}
	switch {
	case sum.Cmp(big.NewInt(2147483647)) > 0:
		return 0, api.ErrQty
	case len(l) == 0:
		return 0, api.ErrNone
	default:
		return int(sum.Int64()), api.OK
	}
}

// isMark is whether a mark is valid, by the definition.
func isMark(m api.Mark) bool {
	return m.Dot.Replica > 0 && m.Dot.Replica < 65536 && m.Dot.Counter > 0 && m.Dot.Counter < 1<<32 && isQty(m.Qty) && m.Time > 0
}

// rank is, as a string, the place of a mark in the order of all marks: its time, its replica, its counter and its quantity.
func rank(m api.Mark) string {
	var b []byte
	for _, n := range []uint64{m.Time, uint64(m.Dot.Replica) ^ 1<<63, uint64(m.Dot.Counter) ^ 1<<63, uint64(m.Qty) ^ 1<<63} {
		b = binary.BigEndian.AppendUint64(b, n)
	}
	return string(b)
}

// newestOf is what Newest returns of a list, by the definition: no other mark has a higher rank.
func newestOf(l []api.Mark) (api.Mark, api.Errno) {
	if slices.ContainsFunc(l, func(m api.Mark) bool { return !isMark(m) }) {
		return api.Mark{}, api.ErrArg
	}
	for _, m := range l {
		if !slices.ContainsFunc(l, func(other api.Mark) bool { return rank(other) > rank(m) }) {
			return m, api.OK
		}
	}
	return api.Mark{}, api.ErrNone
}

// nextOf is what Next returns of a list, by the definition, with numbers that have no limit.
func nextOf(l []api.Mark) (uint64, api.Errno) {
	most := new(big.Int)
	for _, m := range l {
		if !isMark(m) {
			return 0, api.ErrArg
		}
		if time := new(big.Int).SetUint64(m.Time); time.Cmp(most) > 0 {
			most = time
		}
	}
	next := most.Add(most, big.NewInt(1))
	if !next.IsUint64() {
		return 0, api.ErrExhausted
	}
	return next.Uint64(), api.OK
}

// ordered is whether marks are a list of marks, by the definition: each dot comes before all that are behind it.
func ordered(l []api.Mark) bool {
	for i, a := range l {
		for _, b := range l[i+1:] {
			if a.Dot.Counter > b.Dot.Counter || a.Dot.Counter == b.Dot.Counter && a.Dot.Replica >= b.Dot.Replica {
				return false
			}
		}
	}
	return true
}

// extremes are marks at and beyond the limits, from the oldest one to the newest one, among them many with equal parts.
func extremes() []api.Mark {
	var out []api.Mark
	for _, time := range []uint64{0, 1, 2, 1<<63 - 1, 1 << 63, math.MaxUint64 - 1, math.MaxUint64} {
		for _, replica := range []int{math.MinInt, -1, 0, 1, 65535, math.MaxInt} {
			for _, counter := range []int{math.MinInt, 0, 1, 4294967295, math.MaxInt} {
				for _, q := range []int{math.MinInt, 0, 1, 2147483647, math.MaxInt} {
					out = append(out, mark(replica, counter, q, time))
				}
			}
		}
	}
	return out
}

// invalid are marks that are not valid by just one part, and some by several ones; but for the time they are newer than most others.
func invalid() []api.Mark {
	out := []api.Mark{{}, mark(0, 0, 9, 9), mark(0, 9, 0, 9), mark(9, 0, 9, 0), mark(9, 9, 0, 0), mark(0, 9, 9, 0), mark(9, 9, 9, 0), mark(65535, 4294967295, 2147483647, 0)}
	for _, replica := range []int{math.MinInt, -1, 0, 65536, math.MaxInt} {
		out = append(out, mark(replica, 9, 9, 9), mark(replica, 4294967295, 2147483647, math.MaxUint64))
	}
	for _, counter := range []int{math.MinInt, -1, 0, 4294967296, math.MaxInt} {
		out = append(out, mark(9, counter, 9, 9), mark(65535, counter, 2147483647, math.MaxUint64))
	}
	for _, q := range []int{math.MinInt, -1, 0, 2147483648, math.MaxInt} {
		out = append(out, mark(9, 9, q, 9), mark(65535, 4294967295, q, math.MaxUint64))
	}
	return out
}

// few are marks of which each two differ in another part first, with times at the end, and one that is not valid by its dot, its quantity and its time each.
func few() []api.Mark {
	return []api.Mark{
		mark(1, 1, 5, 3), mark(2, 1, 7, 4), mark(1, 9, 9, 4), mark(2, 2, 1, 4), mark(2, 2, 2, 4),
		mark(1, 1, 1, 18446744073709551614), mark(1, 1, 1, 18446744073709551615), mark(3, 1, 1, 18446744073709551615),
		mark(0, 1, 5, 9), mark(9, 9, 0, 9), mark(9, 9, 9, 0),
	}
}

// random returns some valid marks, always the same ones with a source in the same state, with few different times, replicas and counters.
func random(r *rand.Rand, size int) []api.Mark {
	out := make([]api.Mark, size)
	for i := range out {
		out[i] = mark(1+r.Intn(4), 1+r.Intn(4), 1+r.Intn(4), 1+uint64(r.Intn(4)))
	}
	return out
}

// P8.1: numbers at the limits and beyond them.
func TestValid(t *testing.T) {
	for q, want := range map[int]bool{
		-1: false, 0: false, 1: true, 2: true, 65536: true, 2147483646: true, 2147483647: true, 2147483648: false,
		4294967295: false, 4294967296: false, 4294967297: false, -2147483647: false, -2147483648: false, -4294967295: false,
		math.MinInt: false, math.MinInt + 1: false, math.MaxInt: false, math.MaxInt - 1: false,
	} {
		if is := Valid(q); is != want {
			t.Error(q, is)
		}
	}
	for bit := range 63 {
		if is := Valid(1 << bit); is != (bit < 31) {
			t.Error(bit, is)
		}
	}
}

// P8.1: each part at its limits and beyond them, alone and with the others.
func TestValidMark(t *testing.T) {
	for _, c := range []struct {
		m    api.Mark
		want bool
	}{
		{mark(1, 1, 1, 1), true}, {mark(65535, 4294967295, 2147483647, 18446744073709551615), true},
		{mark(3, 7, 5, 18446744073709551614), true}, {mark(3, 7, 5, 1<<63), true}, {mark(3, 7, 5, 1<<32), true},
		{mark(1, 1, 5, 0), false}, {mark(0, 1, 5, 1), false}, {mark(1, 0, 5, 1), false}, {mark(1, 1, 0, 1), false}, {api.Mark{}, false},
		{mark(65536, 1, 5, 1), false}, {mark(1, 4294967296, 5, 1), false}, {mark(1, 1, 2147483648, 1), false},
		{mark(-1, 1, 5, 1), false}, {mark(1, -1, 5, 1), false}, {mark(1, 1, -1, 1), false},
	} {
		if is := ValidMark(c.m); is != c.want {
			t.Error(c, is)
		}
	}
	for _, m := range extremes() {
		if is := ValidMark(m); is != isMark(m) {
			t.Error(m, is)
		}
	}
	for _, m := range invalid() {
		if ValidMark(m) {
			t.Error(m)
		}
	}
}

// P8.1: sums that are known, up to the greatest quantity and above it, and the errors.
func TestKnownSums(t *testing.T) {
	for _, c := range []struct {
		l    []int
		want int
		err  api.Errno
	}{
		{nil, 0, api.ErrNone}, {[]int{}, 0, api.ErrNone},
		{[]int{1}, 1, api.OK}, {[]int{5}, 5, api.OK}, {[]int{2147483647}, 2147483647, api.OK},
		{[]int{-1}, 0, api.ErrQty}, {[]int{0}, 0, api.ErrQty}, {[]int{2147483648}, 0, api.ErrQty},
		{[]int{3, 4}, 7, api.OK}, {[]int{3, 4, 1}, 8, api.OK}, {[]int{3, 3}, 6, api.OK},
		{[]int{2147483646, 1}, 2147483647, api.OK}, {[]int{1, 2147483646}, 2147483647, api.OK}, {[]int{1073741823, 1073741824}, 2147483647, api.OK},
		{[]int{1, 2147483645, 1}, 2147483647, api.OK}, {[]int{2147483645, 1, 1}, 2147483647, api.OK},
		{[]int{2147483647, 1}, 0, api.ErrQty}, {[]int{1, 2147483647}, 0, api.ErrQty}, {[]int{1073741824, 1073741824}, 0, api.ErrQty},
		{[]int{1, 2147483646, 1}, 0, api.ErrQty}, {[]int{2147483646, 2}, 0, api.ErrQty},
		{[]int{3, 0}, 0, api.ErrQty}, {[]int{0, 3}, 0, api.ErrQty}, {[]int{3, -1}, 0, api.ErrQty}, {[]int{-1, 5}, 0, api.ErrQty}, {[]int{5, -1, 5}, 0, api.ErrQty},
		// A number that is no quantity, behind a sum that is too great and in front of it.
		{[]int{2147483647, 1, 0}, 0, api.ErrQty}, {[]int{2147483647, 1, -1}, 0, api.ErrQty}, {[]int{2147483647, 1, 2147483648}, 0, api.ErrQty},
		{[]int{0, 2147483647, 1}, 0, api.ErrQty}, {[]int{-1, 2147483647, 1}, 0, api.ErrQty}, {[]int{2147483648, 2147483647, 1}, 0, api.ErrQty},
		// Those that are no quantities would make the sum one again.
		{[]int{2147483647, 1, -1, 1, -1}, 0, api.ErrQty}, {[]int{2147483648, -1}, 0, api.ErrQty}, {[]int{-1, 2147483648}, 0, api.ErrQty}, {[]int{6, -1}, 0, api.ErrQty},
		// The sum goes around to a small number, in 32 and in 64 bits.
		{[]int{2147483647, 2147483647, 3}, 0, api.ErrQty}, {[]int{math.MaxInt, math.MaxInt, 3}, 0, api.ErrQty}, {[]int{math.MaxInt, 1}, 0, api.ErrQty}, {[]int{math.MinInt, math.MinInt, 5}, 0, api.ErrQty},
	} {
		if n, err := Sum(c.l); n != c.want || err != c.err {
			t.Error(c, n, err)
		}
	}
}

// P8.1 and P8.4: all short lists of numbers, by the definition; so their order does not matter, and a sum is a quantity.
func TestSum(t *testing.T) {
	for _, l := range lists(4, numbers()...) {
		want, wrong := summed(l)
		n, err := Sum(l)
		if n != want || err != wrong {
			t.Fatal(l, n, err)
		}
		if err == api.OK && !Valid(n) {
			t.Fatal(l, n)
		}
		sorted := slices.Sorted(slices.Values(l))
		if again, e := Sum(sorted); again != n || e != err {
			t.Fatal(l, again, e)
		}
	}
}

// P8.1 and P8.4: many numbers, the sum of which is just the greatest quantity, or one above it, wherever the smaller one stands.
func TestSumOfMany(t *testing.T) {
	l := slices.Repeat([]int{32768}, 65536)
	if n, err := Sum(l); n != 0 || err != api.ErrQty {
		t.Error(n, err)
	}
	for _, at := range []int{0, 1, 40000, 65535} {
		l[at]--
		if n, err := Sum(l); n != 2147483647 || err != api.OK {
			t.Error(at, n, err)
		}
		if n, err := Sum(append(l, 1)); n != 0 || err != api.ErrQty {
			t.Error(at, n, err)
		}
		if n, err := Sum(append(l, 0)); n != 0 || err != api.ErrQty {
			t.Error(at, n, err)
		}
		l[at]++
	}
	ones := slices.Repeat([]int{1}, 1<<20)
	if n, err := Sum(ones); n != 1<<20 || err != api.OK {
		t.Error(n, err)
	}
}

// P8.2: pairs that are known: what comes first decides, whatever the others are.
func TestKnownPairs(t *testing.T) {
	for _, c := range []struct {
		a, b api.Mark
		want int
	}{
		{mark(1, 1, 5, 3), mark(2, 9, 5, 2), 1}, {mark(1, 9, 5, 3), mark(2, 1, 5, 3), -1}, {mark(1, 1, 5, 3), mark(1, 1, 6, 3), -1}, {mark(1, 1, 5, 3), mark(1, 1, 5, 3), 0},
		{mark(1, 1, 1, 4), mark(9, 9, 9, 3), 1}, {mark(2, 1, 1, 3), mark(1, 9, 9, 3), 1}, {mark(1, 2, 1, 3), mark(1, 1, 9, 3), 1}, {mark(1, 1, 2, 3), mark(1, 1, 1, 3), 1},
		{mark(1, 1, 5, 18446744073709551615), mark(1, 1, 5, 18446744073709551614), 1}, {mark(1, 1, 5, 0), mark(1, 1, 5, 18446744073709551615), -1}, {mark(1, 1, 5, 1<<63), mark(1, 1, 5, 1<<63-1), 1},
		{mark(10, 1, 5, 3), mark(9, 1, 5, 3), 1}, {mark(1, 10, 5, 3), mark(1, 9, 5, 3), 1}, {mark(1, 1, 10, 3), mark(1, 1, 9, 3), 1},
		// Marks that are not valid.
		{api.Mark{}, api.Mark{}, 0}, {api.Mark{}, mark(0, 0, 0, 1), -1}, {api.Mark{}, mark(-1, 0, 0, 0), 1}, {api.Mark{}, mark(0, -1, 0, 0), 1}, {api.Mark{}, mark(0, 0, -1, 0), 1},
		{mark(math.MinInt, 0, 0, 0), mark(math.MaxInt, 0, 0, 0), -1}, {mark(0, math.MaxInt, 0, 0), mark(0, math.MinInt, 0, 0), 1}, {mark(0, 0, math.MinInt, 0), mark(0, 0, math.MaxInt, 0), -1},
		{mark(-1, -1, -1, 0), mark(-1, -1, -1, 0), 0}, {mark(0, 9, 9, 9), mark(1, 1, 1, 9), -1}, {mark(9, 9, 9, 0), mark(1, 1, 1, 1), -1},
	} {
		if x := Compare(c.a, c.b); x != c.want {
			t.Error(c, x)
		}
		if x := Compare(c.b, c.a); x != -c.want {
			t.Error(c, x)
		}
	}
}

// P8.2 and P8.4: marks that stand in their order, valid and not; so Compare is an order.
func TestCompare(t *testing.T) {
	l := extremes()
	if !slices.IsSortedFunc(l, func(a, b api.Mark) int { return strings.Compare(rank(a), rank(b)) }) {
		t.Fatal("the marks do not stand in their order")
	}
	for i, a := range l {
		for k, b := range l {
			x := Compare(a, b)
			if i < k && x != -1 || i > k && x != 1 || i == k && x != 0 {
				t.Fatal(a, b, x)
			}
		}
	}
}

// P8.2: lists that are known, and the errors, of Newest and of Next.
func TestKnownNewestAndNext(t *testing.T) {
	const last = 18446744073709551615
	old, young := mark(1, 1, 5, 3), mark(2, 1, 7, 4)
	end, almost := mark(1, 1, 5, last), mark(1, 1, 5, last-1)
	for _, c := range []struct {
		l      []api.Mark
		newest api.Mark
		first  api.Errno
		next   uint64
		second api.Errno
	}{
		{nil, api.Mark{}, api.ErrNone, 1, api.OK}, {[]api.Mark{}, api.Mark{}, api.ErrNone, 1, api.OK},
		{[]api.Mark{old}, old, api.OK, 4, api.OK}, {[]api.Mark{mark(1, 1, 1, 1)}, mark(1, 1, 1, 1), api.OK, 2, api.OK},
		{[]api.Mark{old, young}, young, api.OK, 5, api.OK}, {[]api.Mark{young, old}, young, api.OK, 5, api.OK}, {[]api.Mark{old, old}, old, api.OK, 4, api.OK},
		{[]api.Mark{young, old, young}, young, api.OK, 5, api.OK}, {[]api.Mark{old, young, old}, young, api.OK, 5, api.OK},
		{[]api.Mark{mark(9, 9, 9, 3), mark(1, 1, 1, 4)}, mark(1, 1, 1, 4), api.OK, 5, api.OK},
		{[]api.Mark{mark(1, 9, 9, 3), mark(2, 1, 1, 3)}, mark(2, 1, 1, 3), api.OK, 4, api.OK},
		{[]api.Mark{mark(2, 8, 9, 3), mark(2, 9, 1, 3)}, mark(2, 9, 1, 3), api.OK, 4, api.OK},
		{[]api.Mark{mark(2, 9, 1, 3), mark(2, 9, 2, 3)}, mark(2, 9, 2, 3), api.OK, 4, api.OK},
		// The last times.
		{[]api.Mark{almost}, almost, api.OK, last, api.OK}, {[]api.Mark{old, almost}, almost, api.OK, last, api.OK},
		{[]api.Mark{end}, end, api.OK, 0, api.ErrExhausted}, {[]api.Mark{almost, end}, end, api.OK, 0, api.ErrExhausted}, {[]api.Mark{end, almost}, end, api.OK, 0, api.ErrExhausted}, {[]api.Mark{end, old}, end, api.OK, 0, api.ErrExhausted},
		// A mark that is not valid counts first, also if the time of another one is the last one.
		{[]api.Mark{{}}, api.Mark{}, api.ErrArg, 0, api.ErrArg}, {[]api.Mark{end, {}}, api.Mark{}, api.ErrArg, 0, api.ErrArg}, {[]api.Mark{{}, end}, api.Mark{}, api.ErrArg, 0, api.ErrArg},
		{[]api.Mark{mark(0, 1, 5, last)}, api.Mark{}, api.ErrArg, 0, api.ErrArg}, {[]api.Mark{mark(1, 1, 0, last), young}, api.Mark{}, api.ErrArg, 0, api.ErrArg}, {[]api.Mark{young, mark(1, 1, 5, 0)}, api.Mark{}, api.ErrArg, 0, api.ErrArg},
	} {
		if m, err := Newest(c.l); m != c.newest || err != c.first {
			t.Error(c, m, err)
		}
		if n, err := Next(c.l); n != c.next || err != c.second {
			t.Error(c, n, err)
		}
	}
}

// P8.2 and P8.4: all short lists of marks, valid and not, by the definition; so their order does not matter.
func TestNewestAndNext(t *testing.T) {
	for _, l := range lists(4, few()...) {
		newest, first := newestOf(l)
		if m, err := Newest(l); m != newest || err != first {
			t.Fatal(l, m, err)
		}
		next, second := nextOf(l)
		if n, err := Next(l); n != next || err != second {
			t.Fatal(l, n, err)
		}
	}
}

// P8.2: one mark that is not valid, at each place among others, also beside a mark with the last time.
func TestInvalidMarks(t *testing.T) {
	for _, bad := range invalid() {
		for _, good := range [][]api.Mark{nil, {mark(1, 1, 5, 3)}, {mark(1, 1, 5, 3), mark(65535, 4294967295, 2147483647, math.MaxUint64), mark(2, 1, 7, 4)}} {
			for at := range len(good) + 1 {
				l := slices.Insert(slices.Clone(good), at, bad)
				if m, err := Newest(l); m != (api.Mark{}) || err != api.ErrArg {
					t.Error(l, m, err)
				}
				if n, err := Next(l); n != 0 || err != api.ErrArg {
					t.Error(l, n, err)
				}
			}
		}
	}
}

// P8.3: lists that are known; the dots alone decide, and they need not be valid.
func TestKnownLists(t *testing.T) {
	for _, c := range []struct {
		l    []api.Mark
		want bool
	}{
		{nil, true}, {[]api.Mark{}, true}, {[]api.Mark{mark(1, 1, 5, 3)}, true}, {[]api.Mark{{}}, true},
		{[]api.Mark{mark(1, 1, 5, 3), mark(2, 1, 7, 4)}, true}, {[]api.Mark{mark(2, 1, 7, 4), mark(1, 1, 5, 3)}, false},
		{[]api.Mark{mark(1, 1, 5, 3), mark(1, 1, 7, 4)}, false}, {[]api.Mark{mark(1, 1, 5, 3), mark(1, 1, 5, 3)}, false}, {[]api.Mark{{}, {}}, false},
		// The counters count first, and neither the times nor the quantities at all.
		{[]api.Mark{mark(9, 1, 5, 3), mark(1, 2, 7, 4)}, true}, {[]api.Mark{mark(1, 2, 7, 4), mark(9, 1, 5, 3)}, false},
		{[]api.Mark{mark(1, 1, 9, 9), mark(2, 1, 5, 5), mark(1, 2, 1, 1)}, true}, {[]api.Mark{mark(1, 2, 1, 1), mark(2, 1, 5, 5), mark(1, 1, 9, 9)}, false},
		// What is wrong stands behind, in the middle or in front.
		{[]api.Mark{mark(1, 1, 5, 3), mark(2, 1, 7, 4), mark(2, 1, 8, 5)}, false}, {[]api.Mark{mark(1, 1, 5, 3), mark(1, 1, 7, 4), mark(2, 1, 8, 5)}, false}, {[]api.Mark{mark(1, 1, 5, 3), mark(2, 1, 7, 4), mark(1, 1, 5, 3)}, false},
		{[]api.Mark{mark(1, 1, 5, 3), mark(1, 3, 7, 4), mark(1, 2, 8, 5)}, false}, {[]api.Mark{mark(1, 2, 5, 3), mark(1, 1, 7, 4), mark(1, 3, 8, 5)}, false},
		// Marks that are not valid.
		{[]api.Mark{mark(1, 1, 0, 0), mark(2, 1, -1, 0)}, true}, {[]api.Mark{mark(9, -1, 0, 0), mark(-9, 0, 0, 0), mark(9, 0, 0, 0)}, true}, {[]api.Mark{mark(9, 0, 0, 0), mark(9, -1, 0, 0)}, false},
		{[]api.Mark{mark(1, math.MinInt, 0, 0), mark(1, math.MaxInt, 0, 0)}, true}, {[]api.Mark{mark(1, math.MaxInt, 0, 0), mark(1, math.MinInt, 0, 0)}, false}, {[]api.Mark{mark(math.MinInt, 1, 0, 0), mark(math.MaxInt, 1, 0, 0)}, true},
	} {
		if is := IsList(c.l); is != c.want {
			t.Error(c, is)
		}
	}
}

// P8.3: all short lists of marks, valid and not, some with the same dot, by the definition.
func TestIsListAndDots(t *testing.T) {
	for _, l := range lists(4, mark(1, 1, 5, 3), mark(2, 1, 7, 4), mark(2, 1, 8, 1), mark(1, 2, 2, 2), mark(2, 2, 9, 9), mark(1, 3, 1, 1), mark(-1, 3, 0, 0), mark(7, 0, -5, 0), api.Mark{}) {
		if is := IsList(l); is != ordered(l) {
			t.Fatal(l, is)
		}
		dots := Dots(l)
		if len(dots) != len(l) {
			t.Fatal(l, dots)
		}
		for i, d := range dots {
			if d.Replica != l[i].Dot.Replica || d.Counter != l[i].Dot.Counter {
				t.Fatal(l, dots)
			}
		}
	}
}

// P8.3: Dots keeps the order, and the dots that are there twice or not valid.
func TestKnownDots(t *testing.T) {
	for _, c := range []struct {
		l    []api.Mark
		want []api.Dot
	}{
		{nil, nil}, {[]api.Mark{}, nil}, {[]api.Mark{mark(3, 7, 5, 3)}, []api.Dot{{Replica: 3, Counter: 7}}},
		{[]api.Mark{mark(2, 1, 7, 4), mark(1, 1, 5, 3)}, []api.Dot{{Replica: 2, Counter: 1}, {Replica: 1, Counter: 1}}},
		{[]api.Mark{mark(1, 1, 5, 3), mark(2, 1, 7, 4), mark(1, 1, 5, 3)}, []api.Dot{{Replica: 1, Counter: 1}, {Replica: 2, Counter: 1}, {Replica: 1, Counter: 1}}},
		{[]api.Mark{{}, mark(-1, math.MaxInt, 0, 0), {}}, []api.Dot{{}, {Replica: -1, Counter: math.MaxInt}, {}}},
	} {
		if dots := Dots(c.l); !slices.Equal(dots, c.want) {
			t.Error(c, dots)
		}
	}
}

// P8.4: the newest mark, and the next time, of the same marks in all orders, and more often than once.
func TestAllOrders(t *testing.T) {
	r := rand.New(rand.NewSource(8))
	for _, l := range [][]api.Mark{few()[:5], few()[:7], few()[2:8], few()[4:9], random(r, 6), random(r, 6), random(r, 6)} {
		newest, first := newestOf(l)
		next, second := nextOf(l)
		for _, o := range orders(l) {
			for _, given := range [][]api.Mark{o, slices.Concat(o, l), slices.Concat(o, o)} {
				if m, err := Newest(given); m != newest || err != first {
					t.Fatal(given, m, err)
				}
				if n, err := Next(given); n != next || err != second {
					t.Fatal(given, n, err)
				}
			}
		}
	}
}

// P8.4: a mark at the time Next is newer than all of the marks, even if all its other parts are the smallest ones.
func TestNextIsNewer(t *testing.T) {
	made := lists(4, few()...)
	r := rand.New(rand.NewSource(9))
	for size := range 200 {
		made = append(made, random(r, size))
	}
	for _, l := range made {
		time, err := Next(l)
		if err != api.OK {
			continue
		}
		m := mark(1, 1, 1, time)
		if !ValidMark(m) {
			t.Fatal(l, time)
		}
		for _, old := range l {
			if Compare(m, old) != 1 || Compare(old, m) != -1 {
				t.Fatal(l, time, old)
			}
		}
		if newest, e := Newest(append(slices.Clone(l), m)); newest != m || e != api.OK {
			t.Fatal(l, newest, e)
		}
	}
}

// P8.4: no mark is newer than the newest one, which is one of them, and its time is just before Next.
func TestNewestOfMany(t *testing.T) {
	r := rand.New(rand.NewSource(10))
	for size := 1; size < 300; size++ {
		l := random(r, size)
		newest, err := Newest(l)
		if err != api.OK || !slices.Contains(l, newest) {
			t.Fatal(l, newest, err)
		}
		if slices.ContainsFunc(l, func(m api.Mark) bool { return Compare(m, newest) > 0 || rank(m) > rank(newest) }) {
			t.Fatal(l, newest)
		}
		if n, e := Next(l); n != newest.Time+1 || e != api.OK {
			t.Fatal(l, n, e)
		}
	}
}

// P1: long lists come to an end, with what is wrong, or newest, behind all the others.
func TestLong(t *testing.T) {
	l := make([]api.Mark, 1<<20)
	for i := range l {
		l[i] = mark(1+i%65535, 1+i, 5, 7)
	}
	if is := IsList(l); !is {
		t.Error(is)
	}
	if dots := Dots(l); len(dots) != len(l) || dots[1<<19] != l[1<<19].Dot {
		t.Error(len(dots))
	}
	last := &l[len(l)-1]
	last.Time = 8
	if m, err := Newest(l); m != *last || err != api.OK {
		t.Error(m, err)
	}
	if n, err := Next(l); n != 9 || err != api.OK {
		t.Error(n, err)
	}
	last.Dot = l[len(l)-2].Dot
	if is := IsList(l); is {
		t.Error(is)
	}
	last.Qty = 0
	if m, err := Newest(l); m != (api.Mark{}) || err != api.ErrArg {
		t.Error(m, err)
	}
	if n, err := Next(l); n != 0 || err != api.ErrArg {
		t.Error(n, err)
	}
}

// The rules: no call changes its arguments, not even behind their ends, and equal calls have equal results.
func TestArgumentsStay(t *testing.T) {
	marks := append(few()[:7:7], random(rand.New(rand.NewSource(11)), 20)...)
	slices.Reverse(marks)
	for _, size := range []int{0, 1, 5, 20, len(marks)} {
		before := slices.Clone(marks)
		newest, first := newestOf(before[:size])
		next, second := nextOf(before[:size])
		for range 2 {
			if m, err := Newest(marks[:size]); m != newest || err != first {
				t.Error(size, m, err)
			}
			if n, err := Next(marks[:size]); n != next || err != second {
				t.Error(size, n, err)
			}
			if is := IsList(marks[:size]); is != ordered(before[:size]) {
				t.Error(size, is)
			}
			if dots := Dots(marks[:size]); len(dots) != size {
				t.Error(size, dots)
			}
			if !slices.Equal(marks, before) {
				t.Fatal(size, marks)
			}
		}
	}
	l := []int{3, 1, 2, 9, 0, 2147483647}
	for size := range len(l) + 1 {
		before := slices.Clone(l)
		want, wrong := summed(before[:size])
		for range 2 {
			if n, err := Sum(l[:size]); n != want || err != wrong || !slices.Equal(l, before) {
				t.Error(size, l, n, err)
			}
		}
	}
}

// The rules: the dots are new memory, of the marks and of each other.
func TestNewMemory(t *testing.T) {
	l := []api.Mark{mark(1, 1, 5, 3), mark(2, 1, 7, 4)}
	dots, others := Dots(l), Dots(l)
	dots[0] = api.Dot{Replica: 9, Counter: 9}
	_ = append(dots[:1], api.Dot{Replica: 8, Counter: 8})
	if l[0] != mark(1, 1, 5, 3) || l[1] != mark(2, 1, 7, 4) || !slices.Equal(others, []api.Dot{{Replica: 1, Counter: 1}, {Replica: 2, Counter: 1}}) {
		t.Error(l, others)
	}
	l[0].Dot.Counter = 7
	if others[0] != (api.Dot{Replica: 1, Counter: 1}) {
		t.Error(others)
	}
	m, _ := Newest(l)
	l[1].Qty = 8
	if m.Qty != 7 {
		t.Error(m)
	}
}
