package vector

import (
	"math"
	"slices"
	"strings"
	"testing"

	"pannier/api"
)

// of returns the dots of pairs of a replica and a counter.
func of(l ...int) []api.Dot {
	var out []api.Dot
	for i := 0; i+1 < len(l); i += 2 {
		out = append(out, api.Dot{Replica: l[i], Counter: l[i+1]})
	}
	return out
}

// grid is all dots of the replicas 1 to 3 with the counters 1 to 3.
func grid() []api.Dot {
	return of(1, 1, 1, 2, 1, 3, 2, 1, 2, 2, 2, 3, 3, 1, 3, 2, 3, 3)
}

// vectors is all valid vectors with dots of the grid alone.
func vectors() []api.Vector {
	var out []api.Vector
	for i := range 4 * 4 * 4 {
		var v api.Vector
		for k, counter := range []int{i / 16, i / 4 % 4, i % 4} {
			if counter > 0 {
				v = append(v, api.Dot{Replica: k + 1, Counter: counter})
			}
		}
		out = append(out, v)
	}
	return out
}

// invalid is vectors that are not valid, each for one reason.
func invalid() []api.Vector {
	out := []api.Vector{of(3, 7, 1, 2), of(1, 2, 1, 2), of(1, 2, 1, 3), of(1, 3, 1, 2), of(1, 2, 3, 7, 2, 5), of(1, 2, 3, 7, 3, 8), of(2, 5, 1, 2, 3, 7)}
	for _, bad := range invalidDots() {
		// The replicas of the others leave room, so that many of these increase nevertheless.
		low, high := api.Dot{Replica: 1, Counter: 2}, api.Dot{Replica: api.MaxReplica, Counter: 7}
		out = append(out, api.Vector{bad}, api.Vector{bad, high}, api.Vector{low, bad}, api.Vector{low, bad, high})
	}
	return out
}

func invalidDots() []api.Dot {
	return of(0, 0, 0, 1, 2, 0, -1, 1, 2, -1, api.MaxReplica+1, 1, 2, api.MaxCounter+1,
		math.MinInt, 1, 2, math.MinInt, math.MaxInt, 1, 2, math.MaxInt, math.MaxInt, math.MaxInt)
}

// dots is the dots of the grid that are in a valid vector, by the definition.
func dots(v api.Vector) []api.Dot {
	var out []api.Dot
	for _, d := range grid() {
		if slices.ContainsFunc(v, func(last api.Dot) bool { return last.Replica == d.Replica && d.Counter <= last.Counter }) {
			out = append(out, d)
		}
	}
	return out
}

func hasAll(l, some []api.Dot) bool {
	return !slices.ContainsFunc(some, func(d api.Dot) bool { return !slices.Contains(l, d) })
}

// smallest is, of all vectors with dots of the grid, the one that has some dots and as few further ones as possible.
func smallest(some []api.Dot) api.Vector {
	var best api.Vector
	fewest := math.MaxInt
	for _, v := range vectors() {
		if l := dots(v); hasAll(l, some) && len(l) < fewest {
			best, fewest = v, len(l)
		}
	}
	return best
}

// P2.1: vectors at the limits, and what is wrong at each place.
func TestValid(t *testing.T) {
	for _, v := range []api.Vector{nil, {}, of(1, 1), of(1, 2, 3, 7), of(1, 7, 3, 2), of(api.MaxReplica, api.MaxCounter),
		of(1, api.MaxCounter, 2, 1, api.MaxReplica, 1), of(1, 5, 2, 5, 3, 5), of(9, 1, 10, 1)} {
		if !Valid(v) {
			t.Error(v)
		}
	}
	for _, v := range vectors() {
		if !Valid(v) {
			t.Error(v)
		}
	}
	for _, v := range invalid() {
		if Valid(v) {
			t.Error(v)
		}
	}
}

// P2.1: Get takes any vector: the first dot with the replica counts, whatever it is.
func TestGet(t *testing.T) {
	for _, c := range []struct {
		v             api.Vector
		replica, want int
	}{
		{of(1, 2, 3, 7), 3, 7}, {of(1, 2, 3, 7), 1, 2}, {of(1, 2, 3, 7), 2, 0}, {of(1, 2, 3, 7), 4, 0}, {of(1, 2, 3, 7), 0, 0},
		{of(1, 2, 3, 7), -1, 0}, {of(1, 2, 3, 7), 7, 0}, {nil, 1, 0}, {api.Vector{}, 0, 0},
		{of(3, 4, 3, 9), 3, 4}, {of(3, 9, 1, 1, 3, 4), 3, 9}, {of(3, 0, 3, 9), 3, 0}, {of(3, -2, 3, 9), 3, -2}, {of(3, 7, 1, 2), 1, 2},
		{of(0, 5), 0, 5}, {of(-4, 6), -4, 6}, {of(1, -3), 1, -3}, {of(1, math.MinInt), 1, math.MinInt}, {of(1, math.MaxInt), 1, math.MaxInt},
		{of(math.MaxInt, 3), math.MaxInt, 3}, {of(math.MinInt, 3), math.MinInt, 3}, {of(api.MaxReplica, api.MaxCounter), api.MaxReplica, api.MaxCounter},
	} {
		if n := Get(c.v, c.replica); n != c.want {
			t.Error(c, n)
		}
	}
}

// P2.1: Has takes any vector, but only valid dots are in one.
func TestHas(t *testing.T) {
	for _, c := range []struct {
		v                api.Vector
		replica, counter int
		want             bool
	}{
		{of(1, 2, 3, 7), 3, 7, true}, {of(1, 2, 3, 7), 3, 1, true}, {of(1, 2, 3, 7), 3, 8, false}, {of(1, 2, 3, 7), 1, 2, true},
		{of(1, 2, 3, 7), 1, 3, false}, {of(1, 2, 3, 7), 2, 1, false}, {nil, 1, 1, false},
		{of(1, 2), 1, 0, false}, {of(1, 2), 1, -1, false}, {of(1, 2), 0, 0, false}, {of(1, 2), 2, 0, false}, {of(1, 2), 2, -1, false}, {nil, 1, 0, false}, {nil, 0, 0, false},
		{of(1, 2), 1, math.MinInt, false}, {of(1, 2), 1, math.MaxInt, false},
		{of(3, 4, 3, 9), 3, 4, true}, {of(3, 4, 3, 9), 3, 5, false}, {of(3, 9, 3, 4), 3, 9, true}, {of(3, 7, 1, 2), 1, 2, true},
		{of(3, 0, 3, 9), 3, 1, false}, {of(3, -1), 3, 1, false},
		{of(0, 5), 0, 5, false}, {of(0, 5), 0, 1, false}, {of(-1, 5), -1, 5, false}, {of(api.MaxReplica+1, 5), api.MaxReplica + 1, 5, false},
		{of(api.MaxReplica, api.MaxCounter), api.MaxReplica, api.MaxCounter, true}, {of(api.MaxReplica, api.MaxCounter-1), api.MaxReplica, api.MaxCounter, false},
		{of(1, math.MaxInt), 1, api.MaxCounter, true}, {of(1, math.MaxInt), 1, api.MaxCounter + 1, false}, {of(1, math.MaxInt), 1, math.MaxInt, false},
	} {
		if has := Has(c.v, api.Dot{Replica: c.replica, Counter: c.counter}); has != c.want {
			t.Error(c, has)
		}
	}
	for _, v := range vectors() {
		l := dots(v)
		for _, d := range grid() {
			if has := Has(v, d); has != slices.Contains(l, d) {
				t.Error(v, d, has)
			}
		}
	}
}

// P2.2: every list of at most three dots of the grid, in every order and with repetitions.
func TestOf(t *testing.T) {
	lists := [][]api.Dot{nil, {}, of(3, 7, 1, 2, 3, 4)[:0]}
	for _, a := range grid() {
		lists = append(lists, []api.Dot{a})
		for _, b := range grid() {
			lists = append(lists, []api.Dot{a, b})
			for _, c := range grid() {
				lists = append(lists, []api.Dot{a, b, c})
			}
		}
	}
	for _, l := range lists {
		if v, e := Of(l); e != api.OK || !slices.Equal(v, smallest(l)) {
			t.Fatal(l, v, e)
		}
	}
	for _, c := range []struct{ l, want []api.Dot }{
		{of(3, 7, 1, 2, 3, 4), of(1, 2, 3, 7)},
		{of(10, 1, 9, 1, api.MaxReplica, 1, 2, 1), of(2, 1, 9, 1, 10, 1, api.MaxReplica, 1)},
		{of(1, api.MaxCounter, 1, 1, api.MaxReplica, 1, api.MaxReplica, api.MaxCounter), of(1, api.MaxCounter, api.MaxReplica, api.MaxCounter)},
	} {
		if v, e := Of(c.l); e != api.OK || !slices.Equal(v, c.want) {
			t.Error(c, v, e)
		}
	}
}

// P2.2: a dot that is not valid, at each place, also when a valid one of the same replica would hide it.
func TestOfErrors(t *testing.T) {
	for _, bad := range invalidDots() {
		for i := range 4 {
			l := slices.Insert(of(2, 5, 1, 2, 2, 7), i, bad)
			if v, e := Of(l); len(v) != 0 || e != api.ErrArg {
				t.Error(l, v, e)
			}
		}
		if v, e := Of([]api.Dot{bad}); len(v) != 0 || e != api.ErrArg {
			t.Error(bad, v, e)
		}
	}
}

// P2.2: every vector with every dot of the grid.
func TestRaise(t *testing.T) {
	for _, v := range vectors() {
		for _, d := range grid() {
			if x, e := Raise(v, d); e != api.OK || !slices.Equal(x, smallest(append(dots(v), d))) {
				t.Fatal(v, d, x, e)
			}
		}
	}
	for _, c := range []struct {
		v       api.Vector
		d, want []api.Dot
	}{
		{of(1, 2, 3, 7), of(2, 5), of(1, 2, 2, 5, 3, 7)}, {of(1, 2, 3, 7), of(3, 5), of(1, 2, 3, 7)}, {of(1, 2, 3, 7), of(3, 900), of(1, 2, 3, 900)},
		{of(9, 1), of(10, 1), of(9, 1, 10, 1)}, {of(10, 1), of(9, 1), of(9, 1, 10, 1)}, {nil, of(api.MaxReplica, api.MaxCounter), of(api.MaxReplica, api.MaxCounter)},
	} {
		if x, e := Raise(c.v, c.d[0]); e != api.OK || !slices.Equal(x, c.want) {
			t.Error(c, x, e)
		}
	}
}

// P2.2: a dot or a vector that is not valid, or both.
func TestRaiseErrors(t *testing.T) {
	for _, bad := range invalidDots() {
		for _, v := range []api.Vector{nil, of(2, 5), of(1, 2, 3, 7)} {
			if x, e := Raise(v, bad); len(x) != 0 || e != api.ErrArg {
				t.Error(v, bad, x, e)
			}
		}
	}
	for _, v := range invalid() {
		for _, d := range append(of(1, 1, 2, 9, 3, 9), invalidDots()...) {
			if x, e := Raise(v, d); len(x) != 0 || e != api.ErrArg {
				t.Error(v, d, x, e)
			}
		}
	}
}

// P2.2, P2.3: every pair of vectors; what they have is counted dot by dot.
func TestMergeAndOrder(t *testing.T) {
	all := vectors()
	for _, a := range all {
		for _, b := range all {
			inA, inB := dots(a), dots(b)
			if v, e := Merge(a, b); e != api.OK || !slices.Equal(v, smallest(slices.Concat(inA, inB))) {
				t.Fatal(a, b, v, e)
			}
			want := 2
			switch {
			case slices.Equal(a, b):
				want = 0
			case hasAll(inB, inA):
				want = -1
			case hasAll(inA, inB):
				want = 1
			}
			if n, e := Order(a, b); n != want || e != api.OK {
				t.Fatal(a, b, n, e)
			}
		}
	}
}

// P2.2, P2.3: replicas and counters at the limits, and the examples of the document.
func TestMergeAndOrderOfSome(t *testing.T) {
	for _, c := range []struct {
		a, b, want api.Vector
		order      int
	}{
		{nil, nil, nil, 0}, {nil, api.Vector{}, nil, 0}, {of(1, 1), nil, of(1, 1), 1}, {nil, of(1, 1), of(1, 1), -1},
		{of(1, 2, 3, 7), of(1, 4, 2, 1), of(1, 4, 2, 1, 3, 7), 2}, {of(1, 2), of(1, 2, 3, 7), of(1, 2, 3, 7), -1}, {of(1, 2), of(3, 7), of(1, 2, 3, 7), 2},
		{of(1, 9, 2, 1), of(1, 1, 2, 9), of(1, 9, 2, 9), 2}, {of(9, 3, 10, 3), of(10, 2), of(9, 3, 10, 3), 1},
		{of(api.MaxReplica, api.MaxCounter), of(1, 1), of(1, 1, api.MaxReplica, api.MaxCounter), 2},
		{of(7, api.MaxCounter), of(7, api.MaxCounter-1), of(7, api.MaxCounter), 1}, {of(7, api.MaxCounter), of(7, api.MaxCounter), of(7, api.MaxCounter), 0},
	} {
		if v, e := Merge(c.a, c.b); e != api.OK || !slices.Equal(v, c.want) {
			t.Error(c, v, e)
		}
		if n, e := Order(c.a, c.b); n != c.order || e != api.OK {
			t.Error(c, n, e)
		}
	}
}

// P2.2, P2.3, P2.4: a vector that is not valid, as either argument, or as both.
func TestInvalidVectors(t *testing.T) {
	for _, bad := range invalid() {
		for _, good := range []api.Vector{nil, of(1, 2, 3, 7), bad} {
			for _, c := range [][2]api.Vector{{bad, good}, {good, bad}} {
				if v, e := Merge(c[0], c[1]); len(v) != 0 || e != api.ErrArg {
					t.Error(c, v, e)
				}
				if n, e := Order(c[0], c[1]); n != 0 || e != api.ErrArg {
					t.Error(c, n, e)
				}
			}
		}
		if s, e := Text(bad); s != "" || e != api.ErrArg {
			t.Error(bad, s, e)
		}
	}
}

// P2.2, P2.3, P2.4: a dot of every replica that there may be.
func TestAllReplicas(t *testing.T) {
	var all, odd, even, backwards api.Vector
	for replica := 1; replica <= api.MaxReplica; replica++ {
		d := api.Dot{Replica: replica, Counter: 1 + replica*replica%977}
		all = append(all, d)
		if replica%2 == 1 {
			odd = append(odd, d)
		} else {
			even = append(even, d)
		}
		backwards = append(backwards, api.Dot{Replica: d.Replica, Counter: 1}, d)
	}
	slices.Reverse(backwards)
	if v, e := Of(backwards); e != api.OK || !slices.Equal(v, all) {
		t.Error(len(v), e)
	}
	if v, e := Merge(even, odd); e != api.OK || !slices.Equal(v, all) {
		t.Error(len(v), e)
	}
	if n, e := Order(even, odd); n != 2 || e != api.OK {
		t.Error(n, e)
	}
	if n, e := Order(even, all); n != -1 || e != api.OK {
		t.Error(n, e)
	}
	s, e := Text(all)
	if v, f := Parse(s); e != api.OK || f != api.OK || !slices.Equal(v, all) {
		t.Error(len(s), e, len(v), f)
	}
}

// P2.4: vectors and their texts, both ways.
func TestTextAndParse(t *testing.T) {
	for _, c := range []struct {
		v    api.Vector
		text string
	}{
		{nil, "-"}, {api.Vector{}, "-"}, {of(1, 1), "1.1"}, {of(1, 2, 3, 7), "1.2 3.7"}, {of(1, 7, 3, 2), "1.7 3.2"}, {of(9, 90, 10, 200), "9.90 10.200"},
		{of(1, 2, 3, 70, api.MaxReplica, api.MaxCounter), "1.2 3.70 65535.4294967295"},
	} {
		if s, e := Text(c.v); s != c.text || e != api.OK {
			t.Error(c, s, e)
		}
		if v, e := Parse(c.text); e != api.OK || !slices.Equal(v, c.v) {
			t.Error(c, v, e)
		}
	}
}

// P2.4: what is not the text of a valid vector.
func TestParseErrors(t *testing.T) {
	for _, s := range []string{
		"", " ", "  ", "--", "- ", " -", "- -", "- 1.2", "1.2 -", "-1.2", "1.2-", "0", ".", "−",
		" 1.2", "1.2 ", "1.2  3.7", " 1.2 3.7", "1.2 3.7 ", "1.2\t3.7", "1.2\n3.7", "1.2\n", "1.2,3.7", "1.2, 3.7", "1.2;3.7", "1.23.7", "1.2\u00a03.7", "1.2\x003.7",
		"3.7 1.2", "1.2 1.2", "1.2 1.3", "1.3 1.2", "10.1 9.1", "1.2 3.7 2.5", "1.2 3.7 3.8", "1.1 2.1 3.1 3.1",
		"1.0", "0.1", "0.0", "1.0 3.7", "1.2 3.0", "0.1 3.7", "1.2 0.7", "01.2 3.7", "1.2 3.07", "1.2 3.7 0.0",
		"65536.1", "1.4294967296", "1.2 65536.1", "1.2 3.4294967296", "1.99999999999999999999", "18446744073709551617.1", "1.2 3.18446744073709551617",
		"1", "1.2 3", "1.2 3.", "1.2 .7", "1 3.7", "1.2.3", "1.2 3.7.9", "+1.2", "1.2 -3.7", "1.2 3.-7", "a.b", "1.2 a", "1.2 3.7a", "[1.2 3.7]", "\xff",
		strings.Repeat(" ", 1000), strings.Repeat("1.1 ", 1000) + "1.1", strings.Repeat("1", 1000),
	} {
		if v, e := Parse(s); len(v) != 0 || e != api.ErrFormat {
			t.Errorf("%q %v %d", s, v, e)
		}
	}
}

// P2.4: of every text of one byte, or with one byte before, between or after two dots, the right ones are read.
func TestParseBytes(t *testing.T) {
	for i := range 256 {
		b := string([]byte{byte(i)})
		digit := '0' <= i && i <= '9'
		for _, c := range []struct {
			text string
			is   bool
		}{
			{b, b == "-"}, {b + "1.2 31.7", digit && b != "0" && b < "3"}, {"1.2" + b + "31.7", b == " "}, {"1.2 31.7" + b, digit},
			{"1.2 " + b + "1.7", digit && b != "0"}, {"1.2 31" + b + "7", b == "."},
		} {
			v, e := Parse(c.text)
			if c.is != (e == api.OK) || e != api.OK && (e != api.ErrFormat || len(v) != 0) {
				t.Errorf("%q %v %d", c.text, v, e)
			}
			if s, f := Text(v); e == api.OK && (s != c.text || f != api.OK) {
				t.Errorf("%q %q %d", c.text, s, f)
			}
		}
	}
}

// P2.5: Merge does not depend on order or grouping, gives a vector itself with itself, and loses nothing.
func TestMergeConsequences(t *testing.T) {
	all := vectors()
	merge := func(a, b api.Vector) api.Vector {
		v, e := Merge(a, b)
		if e != api.OK || !Valid(v) {
			t.Fatal(a, b, v, e)
		}
		return v
	}
	for _, a := range all {
		if v := merge(a, a); !slices.Equal(v, a) {
			t.Fatal(a, v)
		}
		for _, b := range all {
			ab := merge(a, b)
			if v := merge(b, a); !slices.Equal(ab, v) {
				t.Fatal(a, b, ab, v)
			}
			for _, part := range []api.Vector{a, b} {
				if n, e := Order(part, ab); n != 0 && n != -1 || e != api.OK {
					t.Fatal(a, b, ab, n, e)
				}
			}
			for _, c := range all {
				if v, w := merge(ab, c), merge(a, merge(b, c)); !slices.Equal(v, w) {
					t.Fatal(a, b, c, v, w)
				}
			}
		}
	}
}

// P2.3, P2.5: exchanging the arguments of Order reverses it.
func TestOrderReversed(t *testing.T) {
	all := vectors()
	for _, a := range all {
		for _, b := range all {
			x, e := Order(a, b)
			y, f := Order(b, a)
			if x == 2 && y != 2 || x != 2 && x != -y || (x == 0) != slices.Equal(a, b) || e != api.OK || f != api.OK {
				t.Fatal(a, b, x, y, e, f)
			}
		}
	}
}

// P2.5: every order of the same dots gives the same vector.
func TestOfConsequences(t *testing.T) {
	l := of(3, 7, 1, 2, 3, 4, 2, 9, 1, 2)
	want := api.Vector(of(1, 2, 2, 9, 3, 7))
	var permute func(k int)
	permute = func(k int) {
		if v, e := Of(l); e != api.OK || !slices.Equal(v, want) {
			t.Fatal(l, v, e)
		}
		for i := k; i < len(l); i++ {
			l[k], l[i] = l[i], l[k]
			permute(k + 1)
			l[k], l[i] = l[i], l[k]
		}
	}
	permute(0)
}

// P2.5: Parse inverts Text.
func TestInverse(t *testing.T) {
	all := append(vectors(), of(1, api.MaxCounter, 10, 10, 65535, 12345))
	for counter := 1; counter <= api.MaxCounter; counter = counter*3/2 + 1 {
		all = append(all, of(1, counter, 1+counter%65534, 1+counter/2)[:1], of(1, counter, 2+counter%65534, 1+counter/2))
	}
	for _, v := range all {
		s, e := Text(v)
		if x, f := Parse(s); e != api.OK || f != api.OK || !slices.Equal(x, v) {
			t.Error(v, s, e, x, f)
		}
	}
}

// The rules: arguments are neither modified nor retained, and results are new memory, even if an argument is the result already.
func TestNewMemory(t *testing.T) {
	for name, f := range map[string]func(a, b api.Vector) (api.Vector, api.Errno){
		"Of":           func(a, _ api.Vector) (api.Vector, api.Errno) { return Of(a) },
		"Raise":        func(a, _ api.Vector) (api.Vector, api.Errno) { return Raise(a, a[0]) },
		"Merge":        Merge,
		"Merge first":  func(a, _ api.Vector) (api.Vector, api.Errno) { return Merge(a, nil) },
		"Merge second": func(_, b api.Vector) (api.Vector, api.Errno) { return Merge(nil, b) },
	} {
		v := api.Vector(of(1, 2, 2, 5, 3, 7))
		// With room behind the vector, an append to it would write into the argument's memory.
		back := append(slices.Clone(v), of(8, 8, 9, 9)...)
		a, b, kept := back[:3], slices.Clone(v), slices.Clone(back)
		x, e := f(a, b)
		if e != api.OK || !slices.Equal(x, v) {
			t.Error(name, x, e)
		}
		x = append(x, api.Dot{Replica: 6, Counter: 6})
		for i := range x {
			x[i] = api.Dot{Replica: 7, Counter: 7}
		}
		if !slices.Equal(back, kept) || !slices.Equal(b, v) {
			t.Error(name, "shares memory", back, b)
		}
		if y, e := f(a, b); e != api.OK || !slices.Equal(y, v) {
			t.Error(name, "retained", y, e)
		}
	}
}

// The rules: arguments that are not in order stay as they are, with an error and without one.
func TestArgumentsStay(t *testing.T) {
	for _, l := range [][]api.Dot{of(3, 7, 1, 2, 3, 4, 2, 9), of(3, 7, 0, 1, 1, 2), of(1, 2, 2, 5, 3, 7)} {
		a, b := slices.Clone(l), slices.Clone(l)
		Valid(a)
		Get(a, 2)
		Has(a, l[0])
		Of(a)
		Raise(a, l[1])
		Merge(a, b)
		Order(a, b)
		Text(a)
		if !slices.Equal(a, l) || !slices.Equal(b, l) {
			t.Error(l, a, b)
		}
	}
}
