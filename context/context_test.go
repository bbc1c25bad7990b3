package context

import (
	"math"
	"slices"
	"testing"

	"pannier/api"
)

// of returns the dots of pairs of a replica and a counter.
func of(l ...int) []api.Dot {
	var out []api.Dot
	for i := 0; i+1 < len(l); i += 2 {
		out = append(out, api.Dot{Replica: l[i], Counter: l[i+1]})
	}
	return out
}

// con returns the context whose vector has the first n of some dots, and whose cloud the others.
func con(n int, l ...int) api.Context {
	d := of(l...)
	return api.Context{Vector: d[:n], Cloud: d[n:]}
}

// same reports whether two contexts have the same parts, without the function that is tested.
func same(a, b api.Context) bool {
	return slices.Equal(a.Vector, b.Vector) && slices.Equal(a.Cloud, b.Cloud)
}

// grid is, as a set, the dots of the first replica with the counters 1 to most, and of the second one with 1 to less.
func grid(most, less int) []api.Dot {
	var out []api.Dot
	for counter := 1; counter <= most; counter++ {
		out = append(out, of(1, counter)...)
		if counter <= less {
			out = append(out, of(2, counter)...)
		}
	}
	return out
}

// parts is all subsets of a set.
func parts(set []api.Dot) [][]api.Dot {
	out := make([][]api.Dot, 1<<len(set))
	for i := range out {
		for k, d := range set {
			if i>>k&1 == 1 {
				out[i] = append(out[i], d)
			}
		}
	}
	return out
}

// contexts is all valid contexts with dots of a grid alone.
func contexts(most, less int) []api.Context {
	var out []api.Context
	for first := range most + 1 {
		for second := range less + 1 {
			var v api.Vector
			if first > 0 {
				v = append(v, of(1, first)...)
			}
			if second > 0 {
				v = append(v, of(2, second)...)
			}
			for _, cloud := range parts(grid(most, less)) {
				out = append(out, api.Context{Vector: slices.Clone(v), Cloud: cloud})
			}
		}
	}
	return out
}

// in reports whether a valid dot is in a valid context, by the definition.
func in(c api.Context, d api.Dot) bool {
	return slices.Contains(c.Cloud, d) || slices.ContainsFunc(c.Vector, func(last api.Dot) bool { return last.Replica == d.Replica && d.Counter <= last.Counter })
}

// dots is the dots of a grid, or those further dots that are asked for, that are in a valid context.
func dots(c api.Context, asked []api.Dot) []api.Dot {
	var out []api.Dot
	for _, d := range asked {
		if in(c, d) {
			out = append(out, d)
		}
	}
	return out
}

// compacted is the compact context with some dots of the replicas 1 and 2: the vector has a replica up to its first gap, and the cloud what is beyond.
func compacted(set []api.Dot) api.Context {
	var c api.Context
	for replica := 1; replica <= 2; replica++ {
		last := 0
		for slices.Contains(set, api.Dot{Replica: replica, Counter: last + 1}) {
			last++
		}
		if last > 0 {
			c.Vector = append(c.Vector, api.Dot{Replica: replica, Counter: last})
		}
	}
	for _, d := range set {
		if !in(api.Context{Vector: c.Vector}, d) {
			c.Cloud = append(c.Cloud, d)
		}
	}
	return c
}

// joined is the set of the dots of a grid that are in one of two lists.
func joined(all, a, b []api.Dot) []api.Dot {
	var out []api.Dot
	for _, d := range all {
		if slices.Contains(a, d) || slices.Contains(b, d) {
			out = append(out, d)
		}
	}
	return out
}

// subset reports whether a list has all dots of another one.
func subset(some, l []api.Dot) bool {
	return !slices.ContainsFunc(some, func(d api.Dot) bool { return !slices.Contains(l, d) })
}

func invalidDots() []api.Dot {
	return of(0, 0, 0, 1, 2, 0, -1, 1, 2, -1, api.MaxReplica+1, 1, 2, api.MaxCounter+1,
		math.MinInt, 1, 2, math.MinInt, math.MaxInt, 1, 2, math.MaxInt, math.MaxInt, math.MaxInt)
}

// invalid is contexts that are not valid, nearly all for one reason.
func invalid() []api.Context {
	out := []api.Context{
		// The vector: not in order, a replica twice.
		con(2, 3, 7, 1, 2), con(2, 1, 2, 1, 2), con(2, 1, 2, 1, 3), con(2, 1, 3, 1, 2), con(3, 1, 2, 3, 7, 2, 5), con(3, 1, 2, 3, 7, 3, 8), con(2, 3, 7, 1, 2, 1, 9),
		// The cloud: not in order, by the counters or, with the same ones, by the replicas; a dot twice.
		con(1, 1, 2, 1, 4, 1, 3), con(0, 1, 4, 2, 3), con(0, 2, 3, 1, 3), con(0, 1, 2, 1, 2), con(1, 1, 2, 1, 4, 1, 4), con(1, 1, 2, 1, 2, 1, 1), con(1, 1, 9, 1, 3, 1, 3),
		con(0, 1, 2, 1, 5, 1, 4), con(0, 1, 3, 1, 2, 1, 4),
		// Both.
		con(2, 2, 1, 1, 1, 1, 5, 1, 4),
	}
	for _, bad := range invalidDots() {
		low, high := api.Dot{Replica: 1, Counter: 1}, api.Dot{Replica: api.MaxReplica, Counter: api.MaxCounter}
		for _, l := range [][]api.Dot{{bad}, {low, bad}, {bad, high}, {low, bad, high}} {
			out = append(out, api.Context{Vector: l}, api.Context{Cloud: l}, api.Context{Vector: api.Vector(of(5, 1)), Cloud: l}, api.Context{Vector: l, Cloud: of(5, 5)})
		}
	}
	return out
}

// P3.1: what is valid, what is compact, too, and what it is made to.
func TestCompact(t *testing.T) {
	for _, x := range []struct{ c, want api.Context }{
		{con(0), con(0)}, {api.Context{Vector: api.Vector{}, Cloud: []api.Dot{}}, con(0)},
		{con(1, 1, 2), con(1, 1, 2)}, {con(2, 1, 2, 3, 7), con(2, 1, 2, 3, 7)},
		// Gaps.
		{con(0, 1, 2), con(0, 1, 2)}, {con(0, 1, 2, 1, 4), con(0, 1, 2, 1, 4)}, {con(1, 1, 2, 1, 4), con(1, 1, 2, 1, 4)}, {con(1, 1, 2, 2, 2, 2, 3), con(1, 1, 2, 2, 2, 2, 3)},
		{con(1, 1, 2, 2, 4, 1, 5, 2, 5), con(1, 1, 2, 2, 4, 1, 5, 2, 5)}, {con(0, 2, 2, 9, 2, 2, 3), con(0, 2, 2, 9, 2, 2, 3)},
		// Dots of the cloud that are in the vector.
		{con(1, 1, 5, 1, 3), con(1, 1, 5)}, {con(1, 1, 5, 1, 1), con(1, 1, 5)}, {con(1, 1, 5, 1, 5), con(1, 1, 5)}, {con(1, 1, 5, 1, 1, 1, 3, 1, 5, 1, 7), con(1, 1, 5, 1, 7)},
		{con(2, 1, 2, 2, 9, 2, 3, 1, 4, 2, 9), con(2, 1, 2, 2, 9, 1, 4)},
		// A dot whose counter is 1 more, and several of them one after the other.
		{con(1, 1, 2, 1, 3), con(1, 1, 3)}, {con(0, 1, 1), con(1, 1, 1)}, {con(1, 1, 2, 1, 3, 1, 4, 1, 5), con(1, 1, 5)}, {con(1, 1, 2, 1, 3, 1, 4, 1, 6), con(1, 1, 4, 1, 6)},
		{con(1, 1, 2, 2, 1), con(2, 1, 2, 2, 1)}, {con(1, 5, 2, 2, 1), con(2, 2, 1, 5, 2)}, {con(1, 9, 1, 1, 2, 9, 2), con(1, 9, 2, 1, 2)},
		{con(0, 1, 1, 2, 1, 1, 2, 2, 2), con(2, 1, 2, 2, 2)}, {con(0, 1, 1, 3, 1, 3, 2, 2, 3, 3, 3, 1, 4), con(2, 1, 1, 3, 3, 2, 3, 1, 4)},
		// All of it.
		{con(1, 1, 2, 2, 1, 1, 3, 1, 5), con(2, 1, 3, 2, 1, 1, 5)}, {con(2, 1, 2, 3, 1, 1, 1, 3, 2, 1, 3, 3, 4, 1, 5), con(2, 1, 3, 3, 2, 3, 4, 1, 5)},
		// The greatest counters and replicas.
		{con(1, 1, api.MaxCounter), con(1, 1, api.MaxCounter)}, {con(0, 1, api.MaxCounter), con(0, 1, api.MaxCounter)}, {con(1, 1, api.MaxCounter, 1, api.MaxCounter), con(1, 1, api.MaxCounter)},
		{con(1, 1, api.MaxCounter-1, 1, api.MaxCounter), con(1, 1, api.MaxCounter)}, {con(1, 1, api.MaxCounter-2, 1, api.MaxCounter), con(1, 1, api.MaxCounter-2, 1, api.MaxCounter)},
		{con(1, 1, api.MaxCounter-2, 1, api.MaxCounter-1, 1, api.MaxCounter), con(1, 1, api.MaxCounter)},
		{con(1, 1, api.MaxCounter, api.MaxReplica, 1), con(2, 1, api.MaxCounter, api.MaxReplica, 1)}, {con(0, api.MaxReplica, api.MaxCounter), con(0, api.MaxReplica, api.MaxCounter)},
	} {
		compact, e := Compact(x.c)
		if !same(compact, x.want) || e != api.OK {
			t.Error(x, compact, e)
		}
		if !Valid(x.c) || IsCompact(x.c) != same(x.c, x.want) {
			t.Error(x, Valid(x.c), IsCompact(x.c))
		}
	}
}

// P3.1, P3.2: of every context of a grid, which dots it has, and how many.
func TestAllContexts(t *testing.T) {
	all := grid(4, 3)
	for _, c := range contexts(4, 3) {
		set := dots(c, all)
		want := compacted(set)
		if x, e := Compact(c); !same(x, want) || e != api.OK {
			t.Fatal(c, x, e)
		}
		if !Valid(c) || IsCompact(c) != same(c, want) || Size(c) != uint64(len(set)) {
			t.Fatal(c, Valid(c), IsCompact(c), Size(c))
		}
		for _, d := range slices.Concat(all, of(1, 5, 2, 4, 3, 1)) {
			if has := Has(c, d); has != slices.Contains(set, d) {
				t.Fatal(c, d, has)
			}
		}
	}
}

// P3.1, P3.2, P3.3, P3.4: a context that is not valid, as either argument, or as both.
func TestInvalidContexts(t *testing.T) {
	zero := func(c api.Context) bool { return len(c.Vector) == 0 && len(c.Cloud) == 0 }
	for _, bad := range invalid() {
		if Valid(bad) || IsCompact(bad) || Size(bad) != 0 {
			t.Error(bad, Valid(bad), IsCompact(bad), Size(bad))
		}
		if x, e := Compact(bad); !zero(x) || e != api.ErrArg {
			t.Error(bad, x, e)
		}
		for _, l := range [][]api.Dot{nil, of(1, 1), of(1, 3, 2, 2), invalidDots()} {
			if x, e := Add(bad, l); !zero(x) || e != api.ErrArg {
				t.Error(bad, l, x, e)
			}
		}
		for _, good := range []api.Context{con(0), con(1, 1, 2, 1, 4), bad} {
			for _, c := range [][2]api.Context{{bad, good}, {good, bad}} {
				if x, e := Union(c[0], c[1]); !zero(x) || e != api.ErrArg {
					t.Error(c, x, e)
				}
				if is, e := Within(c[0], c[1]); is || e != api.ErrArg {
					t.Error(c, is, e)
				}
			}
		}
	}
}

// P3.2: Equal takes any contexts, and does not ask which dots are in them.
func TestEqual(t *testing.T) {
	for _, c := range []struct {
		a, b api.Context
		want bool
	}{
		{con(0), con(0), true}, {api.Context{}, api.Context{Vector: api.Vector{}, Cloud: []api.Dot{}}, true}, {con(1, 1, 2, 1, 4), con(1, 1, 2, 1, 4), true},
		{con(1, 1, 2), con(1, 1, 3), false}, {con(1, 1, 2), con(1, 2, 2), false}, {con(1, 1, 2), con(0), false}, {con(1, 1, 2), con(2, 1, 2, 2, 1), false},
		{con(0, 1, 2), con(0), false}, {con(0, 1, 2), con(0, 1, 3), false}, {con(0, 1, 2), con(0, 2, 2), false}, {con(0, 1, 2), con(0, 1, 2, 1, 4), false},
		{con(1, 1, 2, 1, 4), con(1, 1, 2, 1, 5), false}, {con(1, 1, 2, 1, 4), con(1, 1, 3, 1, 4), false}, {con(1, 1, 2, 1, 4), con(2, 1, 2, 1, 4), false},
		// The same dots in other parts.
		{con(1, 1, 1), con(0, 1, 1), false}, {con(1, 1, 2), con(0, 1, 1, 1, 2), false}, {con(1, 1, 5, 1, 3), con(1, 1, 5), false}, {con(1, 1, 2, 1, 3), con(1, 1, 3), false},
		// Not valid.
		{con(2, 3, 7, 1, 2), con(2, 3, 7, 1, 2), true}, {con(2, 3, 7, 1, 2), con(2, 1, 2, 3, 7), false}, {con(0, 1, 4, 1, 3), con(0, 1, 4, 1, 3), true}, {con(0, 1, 4, 1, 3), con(0, 1, 3, 1, 4), false},
		{con(0, 1, 4, 1, 4), con(0, 1, 4), false}, {con(1, 0, 1), con(1, 0, 1), true}, {con(1, 0, 1), con(1, 0, 0), false}, {con(0, -1, 0), con(0, -1, 0), true}, {con(0, 0, 0), con(0), false}, {con(1, 0, 0), con(0), false},
		{con(0, math.MaxInt, math.MinInt), con(0, math.MaxInt, math.MinInt), true}, {con(1, math.MinInt, 1), con(1, math.MaxInt, 1), false},
	} {
		if Equal(c.a, c.b) != c.want || Equal(c.b, c.a) != c.want {
			t.Error(c, Equal(c.a, c.b), Equal(c.b, c.a))
		}
	}
}

// P3.2, P3.4: Has and Missing take any contexts and any dots; a dot that is not valid is in none.
func TestHasAndMissing(t *testing.T) {
	for _, x := range []struct {
		c           api.Context
		has, hasNot []api.Dot
	}{
		{con(0), nil, of(1, 1, 2, 1, 0, 0)}, {con(1, 1, 2, 1, 4), of(1, 1, 1, 2, 1, 4), of(1, 3, 1, 5, 2, 1, 2, 4, 4, 1, 1, 0, 0, 0, 0, 1, -1, 4)},
		{con(1, 1, 5, 1, 3), of(1, 1, 1, 3, 1, 5), of(1, 6, 3, 1)}, {con(0, 1, 2, 2, 2), of(1, 2, 2, 2), of(1, 1, 2, 1, 1, 3, 3, 2)},
		{con(1, api.MaxReplica, api.MaxCounter), of(api.MaxReplica, 1, api.MaxReplica, api.MaxCounter), of(api.MaxReplica, api.MaxCounter+1, api.MaxReplica+1, 1, api.MaxReplica, 0)},
		{con(0, api.MaxReplica, api.MaxCounter), of(api.MaxReplica, api.MaxCounter), of(api.MaxReplica, api.MaxCounter-1, api.MaxReplica, api.MaxCounter+1)},
		// Not valid: the first dot with a replica counts in the vector, and any dot in the cloud.
		{con(2, 3, 4, 3, 9), of(3, 4, 3, 1), of(3, 5, 3, 9)}, {con(2, 3, 9, 3, 4), of(3, 4, 3, 9), of(3, 10)}, {con(3, 3, 2, 1, 1, 3, 9), of(3, 2, 1, 1), of(3, 3, 3, 9, 1, 2)},
		{con(2, 3, 0, 3, 9), nil, of(3, 1, 3, 9, 3, 0)}, {con(2, 3, -5, 3, 9), nil, of(3, 1, 3, -5, 3, -6)}, {con(2, 3, 7, 1, 2), of(1, 2, 3, 7), of(1, 3, 3, 8)},
		{con(0, 1, 4, 1, 3, 1, 4), of(1, 3, 1, 4), of(1, 1, 1, 5)}, {con(0, 9, 9, 2, 8, 7, 7, 2, 2, 3, 3), of(9, 9, 2, 8, 7, 7, 2, 2, 3, 3), of(2, 1, 2, 9, 2, 7)},
		{con(1, 3, math.MaxInt), of(3, 1, 3, api.MaxCounter), of(3, api.MaxCounter+1, 3, math.MaxInt)}, {con(1, 3, math.MinInt), nil, of(3, 1, 3, math.MinInt)},
		{con(1, 3, math.MaxInt, 3, math.MaxInt), of(3, 1), of(3, math.MaxInt)},
		{con(2, 0, 5, -1, 5, 0, 6, 1, 0, 1, 3), of(1, 3), of(0, 5, 0, 1, -1, 5, -1, 1, 0, 6, 1, 0, 1, 2)},
		{con(2, 1, 2, 0, 5, 1, 4), of(1, 2, 1, 4), of(0, 5, 1, 3)}, {api.Context{Vector: invalidDots(), Cloud: invalidDots()}, nil, invalidDots()},
	} {
		for _, d := range x.has {
			if !Has(x.c, d) || len(Missing(x.c, []api.Dot{d})) != 0 {
				t.Error(x, d, Has(x.c, d), Missing(x.c, []api.Dot{d}))
			}
		}
		for _, d := range x.hasNot {
			if Has(x.c, d) || !slices.Equal(Missing(x.c, []api.Dot{d}), []api.Dot{d}) {
				t.Error(x, d, Has(x.c, d), Missing(x.c, []api.Dot{d}))
			}
		}
	}
}

// P3.4: what is missing is a set, whatever the list is.
func TestMissing(t *testing.T) {
	for _, x := range []struct {
		c       api.Context
		l, want []api.Dot
	}{
		{con(0), nil, nil}, {con(1, 1, 2, 1, 4), nil, nil}, {con(1, 1, 2, 1, 4), []api.Dot{}, nil}, {con(0), of(1, 1), of(1, 1)},
		{con(1, 1, 2, 1, 4), of(1, 5, 1, 3, 1, 4), of(1, 3, 1, 5)}, {con(1, 1, 2, 1, 4), of(1, 5, 1, 3, 1, 4, 1, 3, 1, 5, 1, 4), of(1, 3, 1, 5)},
		{con(1, 1, 2, 1, 4), of(1, 4, 1, 2, 1, 1, 1, 2), nil}, {con(0), of(5, 7, 3, 7, 5, 6, 3, 7), of(5, 6, 3, 7, 5, 7)},
		{con(0, 4, 3, 4, 1, 4, 2), of(4, 5, 4, 4, 4, 3, 4, 2, 4, 1), of(4, 4, 4, 5)}, {con(2, 3, 2, 3, 9), of(3, 5, 3, 2, 3, 3), of(3, 3, 3, 5)},
		// Dots that are not valid are always missing, also if the context is not valid and lists them.
		{con(1, 1, 2), of(0, 1, 1, 2, 1, 0, 1, 0), of(1, 0, 0, 1)}, {con(1, 0, 5, 1, 0), of(0, 1, 1, 0, 1, 1), of(1, 0, 0, 1, 1, 1)},
		{con(1, 1, api.MaxCounter), of(1, api.MaxCounter+1, 1, api.MaxCounter, 1, math.MinInt, api.MaxReplica+1, 1), of(1, math.MinInt, api.MaxReplica+1, 1, 1, api.MaxCounter+1)},
	} {
		if l := Missing(x.c, x.l); !slices.Equal(l, x.want) {
			t.Error(x, l)
		}
	}
	all := grid(3, 2)
	for _, c := range contexts(3, 2) {
		for _, l := range parts(all) {
			want := slices.DeleteFunc(slices.Clone(l), func(d api.Dot) bool { return in(c, d) })
			twice := append(slices.Clone(l), l...)
			slices.Reverse(twice)
			if x, y := Missing(c, l), Missing(c, twice); !slices.Equal(x, want) || !slices.Equal(y, want) {
				t.Fatal(c, l, x, y)
			}
		}
	}
}

// P3.2: how many dots there are, each once, without a loop over them.
func TestSize(t *testing.T) {
	var full, nearly api.Context
	for replica := 1; replica <= api.MaxReplica; replica++ {
		full.Vector = append(full.Vector, api.Dot{Replica: replica, Counter: api.MaxCounter})
		nearly.Vector = append(nearly.Vector, api.Dot{Replica: replica, Counter: api.MaxCounter - 2})
		nearly.Cloud = append(nearly.Cloud, api.Dot{Replica: replica, Counter: api.MaxCounter})
	}
	for _, x := range []struct {
		c    api.Context
		want uint64
	}{
		{con(0), 0}, {con(1, 1, 2), 2}, {con(0, 1, 2), 1}, {con(1, 1, 2, 1, 2, 1, 4), 3}, {con(1, 1, 2, 1, 3, 1, 5), 4}, {con(1, 1, 5, 1, 1, 1, 3, 1, 5), 5}, {con(2, 1, 2, 9, 3, 1, 1, 9, 7), 6},
		{con(1, 1, api.MaxCounter), api.MaxCounter}, {con(1, 1, api.MaxCounter, 1, 1, 1, api.MaxCounter), api.MaxCounter}, {con(0, 1, api.MaxCounter), 1},
		{con(2, 1, api.MaxCounter, 2, api.MaxCounter, 3, 1), 2*api.MaxCounter + 1}, {full, api.MaxReplica * api.MaxCounter}, {nearly, api.MaxReplica * (api.MaxCounter - 1)},
	} {
		if n := Size(x.c); n != x.want {
			t.Error(x.want, n)
		}
	}
}

// P3.3: lists with dots twice and in any order, no dots at all, and contexts that are valid and not compact.
func TestOfAndAdd(t *testing.T) {
	for _, x := range []struct {
		c    api.Context
		l    []api.Dot
		want api.Context
	}{
		{con(0), nil, con(0)}, {con(0), []api.Dot{}, con(0)}, {con(0), of(1, 1), con(1, 1, 1)}, {con(0), of(1, 2), con(0, 1, 2)}, {con(0), of(1, 3, 1, 1, 2, 2, 1, 2), con(1, 1, 3, 2, 2)},
		{con(0), of(1, 3, 1, 3, 1, 1, 1, 3, 1, 1), con(1, 1, 1, 1, 3)}, {con(0), of(9, 1, 2, 1, 9, 2, 5, 4, 5, 3), con(2, 2, 1, 9, 2, 5, 3, 5, 4)},
		{con(0), of(api.MaxReplica, api.MaxCounter, 1, 1), con(1, 1, 1, api.MaxReplica, api.MaxCounter)},
		{con(1, 1, 2, 1, 4), nil, con(1, 1, 2, 1, 4)}, {con(1, 1, 2, 1, 4), of(1, 3), con(1, 1, 4)}, {con(1, 1, 2, 1, 4), of(1, 4, 1, 2, 1, 1), con(1, 1, 2, 1, 4)}, {con(1, 1, 2, 1, 4), of(1, 6, 1, 1), con(1, 1, 2, 1, 4, 1, 6)},
		{con(1, 1, 2, 1, 4), of(2, 4, 2, 1), con(2, 1, 2, 2, 1, 1, 4, 2, 4)}, {con(1, 1, 2, 1, 4, 1, 6), of(1, 5, 1, 3, 1, 3), con(1, 1, 6)}, {con(1, 9, 3), of(2, 1), con(2, 2, 1, 9, 3)},
		{con(1, 1, 2, 1, 3), nil, con(1, 1, 3)}, {con(1, 1, 5, 1, 2), nil, con(1, 1, 5)}, {con(1, 1, 5, 1, 2, 1, 6), of(1, 8), con(1, 1, 6, 1, 8)}, {con(0, 1, 1, 1, 2), of(1, 3), con(1, 1, 3)},
		{con(1, 1, api.MaxCounter-2, 1, api.MaxCounter), of(1, api.MaxCounter-1), con(1, 1, api.MaxCounter)},
	} {
		if y, e := Add(x.c, x.l); !same(y, x.want) || e != api.OK {
			t.Error(x, y, e)
		}
		if y, e := Of(x.l); same(x.c, con(0)) && (!same(y, x.want) || e != api.OK) {
			t.Error(x, y, e)
		}
	}
	for _, bad := range invalidDots() {
		for _, l := range [][]api.Dot{{bad}, {of(1, 1)[0], bad}, {bad, of(1, 9)[0]}, {of(1, 9)[0], bad, of(1, 1)[0]}, {bad, bad}} {
			if y, e := Of(l); len(y.Vector) != 0 || len(y.Cloud) != 0 || e != api.ErrArg {
				t.Error(l, y, e)
			}
			for _, c := range []api.Context{con(0), con(1, 1, 2, 1, 4), con(1, 1, api.MaxCounter), con(1, 2, api.MaxCounter)} {
				if y, e := Add(c, l); len(y.Vector) != 0 || len(y.Cloud) != 0 || e != api.ErrArg {
					t.Error(c, l, y, e)
				}
			}
		}
	}
}

// P3.3, P3.5: all dots that are added to all contexts of a grid; after that nothing is missing.
func TestAddConsequences(t *testing.T) {
	all := grid(3, 2)
	for _, l := range parts(all) {
		backwards := append(slices.Clone(l), l...)
		slices.Reverse(backwards)
		for _, given := range [][]api.Dot{l, backwards} {
			if y, e := Of(given); !same(y, compacted(l)) || e != api.OK {
				t.Fatal(given, y, e)
			}
			for _, c := range contexts(3, 2) {
				y, e := Add(c, given)
				if !same(y, compacted(joined(all, dots(c, all), l))) || e != api.OK || len(Missing(y, given)) != 0 {
					t.Fatal(c, given, y, e)
				}
			}
		}
	}
}

// P3.3, P3.4: two contexts, and which of them has all dots of the other one.
func TestUnionAndWithin(t *testing.T) {
	for _, x := range []struct {
		a, b, want api.Context
		ab, ba     bool
	}{
		{con(0), con(0), con(0), true, true}, {con(0), con(1, 1, 2), con(1, 1, 2), true, false}, {con(0), con(0, 1, 2), con(0, 1, 2), true, false},
		{con(1, 1, 2, 1, 4), con(1, 1, 1, 2, 2, 1, 3), con(1, 1, 4, 2, 2), false, false}, {con(1, 1, 2), con(0, 1, 1, 1, 2), con(1, 1, 2), true, true}, {con(1, 1, 2), con(0, 1, 2), con(1, 1, 2), false, true},
		{con(0, 1, 3), con(1, 1, 5), con(1, 1, 5), true, false}, {con(1, 1, 1), con(1, 2, 1), con(2, 1, 1, 2, 1), false, false}, {con(0, 1, 2), con(0, 1, 1), con(1, 1, 2), false, false},
		{con(0, 1, 2), con(0, 2, 2), con(0, 1, 2, 2, 2), false, false}, {con(0, 1, 2, 1, 4), con(0, 1, 1, 1, 3), con(1, 1, 4), false, false}, {con(1, 2, 3, 1, 5), con(1, 1, 4), con(2, 1, 5, 2, 3), false, false},
		{con(1, 1, 3), con(1, 1, 2, 1, 3), con(1, 1, 3), true, true}, {con(1, 1, 3), con(1, 1, 2, 1, 4), con(1, 1, 4), false, false}, {con(1, 1, 5, 1, 3), con(1, 1, 5), con(1, 1, 5), true, true},
		{con(1, 1, 2, 2, 2), con(2, 1, 2, 2, 1, 2, 2), con(2, 1, 2, 2, 2), true, false}, {con(2, 1, 9, 2, 1), con(2, 1, 1, 2, 9), con(2, 1, 9, 2, 9), false, false},
		{con(1, 1, api.MaxCounter-1), con(0, 1, api.MaxCounter), con(1, 1, api.MaxCounter), false, false}, {con(0, 1, api.MaxCounter), con(1, 1, api.MaxCounter), con(1, 1, api.MaxCounter), true, false},
		{con(1, api.MaxReplica, api.MaxCounter), con(1, 1, 1, 1, 3), con(2, 1, 1, api.MaxReplica, api.MaxCounter, 1, 3), false, false},
	} {
		y, e := Union(x.a, x.b)
		z, f := Union(x.b, x.a)
		if !same(y, x.want) || !same(z, x.want) || e != api.OK || f != api.OK {
			t.Error(x, y, e, z, f)
		}
		ab, e := Within(x.a, x.b)
		ba, f := Within(x.b, x.a)
		if ab != x.ab || ba != x.ba || e != api.OK || f != api.OK {
			t.Error(x, ab, e, ba, f)
		}
	}
}

// P3.3, P3.4, P3.5: of all pairs of contexts of a grid, compact or not; Union does not depend on their order.
func TestAllPairs(t *testing.T) {
	all, cs := grid(3, 2), contexts(3, 2)
	for _, a := range cs {
		inA := dots(a, all)
		for _, b := range cs {
			inB := dots(b, all)
			x, e := Union(a, b)
			y, f := Union(b, a)
			if !same(x, compacted(joined(all, inA, inB))) || !same(x, y) || e != api.OK || f != api.OK {
				t.Fatal(a, b, x, e, y, f)
			}
			if is, e := Within(a, b); is != subset(inA, inB) || e != api.OK {
				t.Fatal(a, b, is, e)
			}
		}
	}
}

// P3.5: Union does not depend on how three contexts are grouped.
func TestGrouping(t *testing.T) {
	union := func(a, b api.Context) api.Context {
		x, e := Union(a, b)
		if e != api.OK || !IsCompact(x) {
			t.Fatal(a, b, x, e)
		}
		return x
	}
	var some []api.Context
	for i, c := range contexts(3, 2) {
		// 13 has no factor of how many clouds and vectors there are, so all kinds of both are met.
		if i%13 == 0 {
			some = append(some, c)
		}
	}
	for _, a := range some {
		for _, b := range some {
			for _, c := range some {
				if x, y := union(union(a, b), c), union(a, union(b, c)); !same(x, y) {
					t.Fatal(a, b, c, x, y)
				}
			}
		}
	}
}

// P3.5: contexts have the same dots if and only if they are equal when compact, and a compact one stays as it is.
func TestCompactConsequences(t *testing.T) {
	all, cs := grid(3, 2), contexts(3, 2)
	compact := make([]api.Context, len(cs))
	for i, c := range cs {
		x, e := Compact(c)
		y, f := Compact(x)
		if !IsCompact(x) || !same(x, y) || e != api.OK || f != api.OK || Size(x) != Size(c) {
			t.Fatal(c, x, e, y, f)
		}
		if IsCompact(c) && !same(x, c) {
			t.Fatal(c, x)
		}
		compact[i] = x
	}
	for i, a := range cs {
		inA := dots(a, all)
		for k, b := range cs {
			if Equal(compact[i], compact[k]) != slices.Equal(inA, dots(b, all)) {
				t.Fatal(a, b, compact[i], compact[k])
			}
		}
	}
}

// P3.1 to P3.4: long chains in the cloud, of all replicas that there may be, in not much more time than their length.
func TestMany(t *testing.T) {
	var ones, vector, cloud, expected []api.Dot
	for replica := 1; replica <= api.MaxReplica; replica++ {
		ones = append(ones, of(replica, 1)...)
		vector = append(vector, of(replica, 2)...)
		expected = append(expected, of(replica, 5)...)
	}
	for _, counter := range []int{3, 4, 5, 7} {
		for replica := 1; replica <= api.MaxReplica; replica++ {
			cloud = append(cloud, of(replica, counter)...)
		}
	}
	c := api.Context{Vector: vector, Cloud: cloud}
	want := api.Context{Vector: expected, Cloud: cloud[3*api.MaxReplica:]}
	if x, e := Compact(c); !same(x, want) || e != api.OK || IsCompact(c) || !IsCompact(want) || Size(c) != 6*api.MaxReplica {
		t.Error(len(x.Vector), len(x.Cloud), e, IsCompact(c), IsCompact(want), Size(c))
	}
	backwards := slices.Concat(cloud, vector, ones, ones)
	slices.Reverse(backwards)
	if x, e := Of(backwards); !same(x, want) || e != api.OK {
		t.Error(len(x.Vector), len(x.Cloud), e)
	}
	if x, e := Union(api.Context{Cloud: cloud}, api.Context{Vector: vector}); !same(x, want) || e != api.OK {
		t.Error(len(x.Vector), len(x.Cloud), e)
	}
	if is, e := Within(c, want); !is || e != api.OK {
		t.Error(is, e)
	}
	if l := Missing(api.Context{Vector: vector, Cloud: want.Cloud}, backwards); !slices.Equal(l, cloud[:3*api.MaxReplica]) {
		t.Error(len(l))
	}
	var chain []api.Dot
	for counter := 2; counter <= 100000; counter++ {
		chain = append(chain, of(7, counter)...)
	}
	if x, e := Compact(api.Context{Cloud: chain}); !same(x, api.Context{Cloud: chain}) || e != api.OK {
		t.Error(len(x.Vector), len(x.Cloud), e)
	}
	if x, e := Add(api.Context{Cloud: chain}, of(7, 1)); !same(x, con(1, 7, 100000)) || e != api.OK {
		t.Error(len(x.Vector), len(x.Cloud), e)
	}
}

// The rules: arguments are neither modified nor retained, and results are new memory, even if an argument is the result already.
func TestNewMemory(t *testing.T) {
	c := con(2, 1, 2, 3, 7, 2, 5, 1, 9)
	list := slices.Concat(of(1, 1, 1, 2, 3, 1, 3, 2, 3, 3, 3, 4, 3, 5, 3, 6, 3, 7), c.Cloud)
	for name, f := range map[string]func(a, b api.Context, l []api.Dot) (api.Context, api.Errno){
		"Compact":      func(a, _ api.Context, _ []api.Dot) (api.Context, api.Errno) { return Compact(a) },
		"Of":           func(_, _ api.Context, l []api.Dot) (api.Context, api.Errno) { return Of(l) },
		"Add":          func(a, _ api.Context, l []api.Dot) (api.Context, api.Errno) { return Add(a, l) },
		"Add nothing":  func(a, _ api.Context, _ []api.Dot) (api.Context, api.Errno) { return Add(a, nil) },
		"Union":        func(a, b api.Context, _ []api.Dot) (api.Context, api.Errno) { return Union(a, b) },
		"Union first":  func(a, _ api.Context, _ []api.Dot) (api.Context, api.Errno) { return Union(a, api.Context{}) },
		"Union second": func(_, b api.Context, _ []api.Dot) (api.Context, api.Errno) { return Union(api.Context{}, b) },
		"Missing": func(_, _ api.Context, l []api.Dot) (api.Context, api.Errno) {
			return api.Context{Vector: slices.Clone(c.Vector), Cloud: Missing(con(2, 1, 2, 3, 7), l)}, api.OK
		},
		"Missing of a set": func(a, _ api.Context, _ []api.Dot) (api.Context, api.Errno) {
			return api.Context{Vector: slices.Clone(c.Vector), Cloud: Missing(api.Context{}, a.Cloud)}, api.OK
		},
	} {
		// With room behind each list, an append to it would write into the argument's memory.
		more := of(8, 8, 9, 9)
		v, w, l := append(slices.Clone(c.Vector), more...), append(slices.Clone(c.Cloud), more...), append(slices.Clone(list), more...)
		a := api.Context{Vector: v[:2], Cloud: w[:2]}
		b := api.Context{Vector: slices.Clone(a.Vector), Cloud: slices.Clone(a.Cloud)}
		x, e := f(a, b, l[:len(list)])
		if e != api.OK || !same(x, c) {
			t.Error(name, x, e)
		}
		x.Vector, x.Cloud = append(x.Vector, of(6, 6)...), append(x.Cloud, of(6, 6)...)
		for _, part := range [][]api.Dot{x.Vector, x.Cloud} {
			for i := range part {
				part[i] = api.Dot{Replica: 7, Counter: 7}
			}
		}
		if !slices.Equal(v, append(slices.Clone(c.Vector), more...)) || !slices.Equal(w, append(slices.Clone(c.Cloud), more...)) || !slices.Equal(l, append(slices.Clone(list), more...)) || !same(b, c) {
			t.Error(name, "shares memory", v, w, l, b)
		}
		if y, e := f(a, b, l[:len(list)]); e != api.OK || !same(y, c) {
			t.Error(name, "retained", y, e)
		}
	}
}

// The rules: the vector and the cloud of one result share no memory.
func TestPartsShareNothing(t *testing.T) {
	for _, c := range []api.Context{con(1, 1, 2, 1, 4), con(1, 1, 2, 1, 3, 1, 5), con(0, 1, 1, 1, 2, 1, 4, 1, 5)} {
		x, e := Compact(c)
		cloud := slices.Clone(x.Cloud)
		x.Vector = append(x.Vector, of(7, 7, 8, 8, 9, 9)...)
		if e != api.OK || !slices.Equal(x.Cloud, cloud) {
			t.Error(c, x, e)
		}
		x, _ = Compact(c)
		vector := slices.Clone(x.Vector)
		x.Cloud = append(x.Cloud, of(7, 7, 8, 8, 9, 9)...)
		if !slices.Equal(x.Vector, vector) {
			t.Error(c, x)
		}
	}
}

// The rules: arguments stay as they are, and what lies behind them, with an error and without one, in order or not.
func TestArgumentsStay(t *testing.T) {
	more := of(8, 8, 9, 9)
	roomy := func(l []api.Dot) []api.Dot { return append(slices.Clone(l), more...)[:len(l)] }
	stays := func(l, want []api.Dot) bool { return slices.Equal(l[:len(l)+len(more)], slices.Concat(want, more)) }
	for _, c := range append(invalid(), con(1, 1, 2, 2, 1, 1, 3, 1, 5), con(1, 1, 5, 1, 3, 1, 6), con(0, 1, 1, 2, 1, 1, 2)) {
		for _, l := range [][]api.Dot{of(3, 7, 1, 2, 3, 4, 2, 9, 3, 7), of(3, 7, 0, 1, 1, 2), of(1, 2, 2, 5, 3, 7)} {
			a := api.Context{Vector: roomy(c.Vector), Cloud: roomy(c.Cloud)}
			b := api.Context{Vector: roomy(c.Vector), Cloud: roomy(c.Cloud)}
			list := roomy(l)
			Valid(a)
			IsCompact(a)
			Compact(a)
			Equal(a, b)
			Has(a, l[0])
			Of(list)
			Add(a, list)
			Union(a, b)
			Within(a, b)
			Missing(a, list)
			Size(a)
			for _, x := range []api.Context{a, b} {
				if !stays(x.Vector, c.Vector) || !stays(x.Cloud, c.Cloud) {
					t.Error(c, x)
				}
			}
			if !stays(list, l) {
				t.Error(l, list)
			}
		}
	}
}
