package dot

import (
	"math"
	"slices"
	"strconv"
	"strings"
	"testing"

	"pannier/api"
)

// of returns the dots of pairs of a replica and a counter.
func of(l ...int) []api.Dot {
	var out []api.Dot
	for i := 0; i+1 < len(l); i += 2 {
		out = append(out, api.Dot{Replica: l[i], Counter: l[i+1]})
	}
	return out
}

// extremes are dots at and beyond the limits, among them some with equal counters or equal replicas.
func extremes() []api.Dot {
	edges := []int{math.MinInt, -1, 0, 1, 2, api.MaxReplica, api.MaxReplica + 1, api.MaxCounter, api.MaxCounter + 1, math.MaxInt}
	var out []api.Dot
	for _, counter := range edges {
		for _, replica := range edges {
			out = append(out, api.Dot{Replica: replica, Counter: counter})
		}
	}
	return out
}

// lists are all lists of at most four dots out of four, one of which is not valid.
func lists() [][]api.Dot {
	dots := of(2, 1, 1, 2, 2, 2, -1, 3)
	out := [][]api.Dot{nil}
	for from, n := 0, 0; n < 4; n++ {
		to := len(out)
		for _, l := range out[from:to] {
			for _, d := range dots {
				out = append(out, append(slices.Clone(l), d))
			}
		}
		from = to
	}
	return out
}

// want returns by a map the dots of both lists that keep accepts, in order.
func want(a, b []api.Dot, keep func(inA, inB bool) bool) []api.Dot {
	in := map[api.Dot][2]bool{}
	for _, d := range a {
		in[d] = [2]bool{true, in[d][1]}
	}
	for _, d := range b {
		in[d] = [2]bool{in[d][0], true}
	}
	var out []api.Dot
	for d, x := range in {
		if keep(x[0], x[1]) {
			at := 0
			for at < len(out) && before(out[at], d) {
				at++
			}
			out = slices.Insert(out, at, d)
		}
	}
	return out
}

func before(a, b api.Dot) bool {
	if a.Counter != b.Counter {
		return a.Counter < b.Counter
	}
	return a.Replica < b.Replica
}

// P1.1: the limits of both numbers, each with the other one in its middle.
func TestValid(t *testing.T) {
	for _, c := range []struct {
		replica, counter int
		want             bool
	}{
		{1, 1, true}, {3, 7, true}, {api.MaxReplica, 7, true}, {3, api.MaxCounter, true}, {api.MaxReplica, api.MaxCounter, true},
		{0, 7, false}, {3, 0, false}, {0, 0, false}, {-1, 7, false}, {3, -1, false}, {-3, -7, false},
		{api.MaxReplica + 1, 7, false}, {3, api.MaxCounter + 1, false}, {7, 65536, true}, {65536, 7, false},
		{math.MaxInt, 7, false}, {3, math.MaxInt, false}, {math.MinInt, 7, false}, {3, math.MinInt, false},
	} {
		if is := Valid(api.Dot{Replica: c.replica, Counter: c.counter}); is != c.want {
			t.Error(c, is)
		}
	}
}

// P1.1: the counters decide, and then the replicas, also of dots that are not valid.
func TestCompare(t *testing.T) {
	for _, c := range []struct {
		a, b api.Dot
		want int
	}{
		{api.Dot{Replica: 3, Counter: 7}, api.Dot{Replica: 5, Counter: 6}, 1},
		{api.Dot{Replica: 3, Counter: 7}, api.Dot{Replica: 5, Counter: 7}, -1},
		{api.Dot{Replica: 3, Counter: 7}, api.Dot{Replica: 3, Counter: 7}, 0},
		{api.Dot{}, api.Dot{}, 0},
		{api.Dot{Replica: 9, Counter: -1}, api.Dot{Replica: -9, Counter: 0}, -1},
		{api.Dot{Replica: 1, Counter: math.MinInt}, api.Dot{Replica: 1, Counter: math.MaxInt}, -1},
		{api.Dot{Replica: math.MaxInt, Counter: 1}, api.Dot{Replica: math.MinInt, Counter: 1}, 1},
	} {
		if x := Compare(c.a, c.b); x != c.want {
			t.Error(c, x)
		}
	}
	// The extremes are listed in the order of dots.
	l := extremes()
	for i, a := range l {
		for k, b := range l {
			x := Compare(a, b)
			if i < k && x != -1 || i > k && x != 1 || i == k && x != 0 {
				t.Error(a, b, x)
			}
		}
	}
}

// P1.2: IsSet and Has of lists of all kinds.
func TestIsSetAndHas(t *testing.T) {
	for _, c := range []struct {
		l    []api.Dot
		want bool
	}{
		{nil, true}, {[]api.Dot{}, true}, {of(3, 7), true}, {of(0, 0), true}, {of(5, 6, 3, 7, 5, 7), true},
		{of(3, 7, 3, 7), false}, {of(5, 7, 3, 7), false}, {of(3, 7, 5, 6), false}, {of(1, 1, 1, 2, 1, 2), false},
		{of(1, 1, 1, 3, 1, 2), false}, {of(2, 1, 1, 1), false}, {of(9, -1, -9, 0, 9, 0), true}, {of(-9, 0, 9, -1), false},
	} {
		if is := IsSet(c.l); is != c.want {
			t.Error(c, is)
		}
	}
	all := lists()
	for _, l := range all {
		if is := IsSet(l); is != slices.Equal(l, want(l, nil, either)) {
			t.Error(l, is)
		}
		for _, d := range of(2, 1, 1, 2, 2, 2, -1, 3, 1, 1, 3, -1, 0, 0) {
			if has := Has(l, d); has != (len(want(l, []api.Dot{d}, both)) == 1) {
				t.Error(l, d, has)
			}
		}
	}
	if !IsSet(extremes()) {
		t.Error("extremes")
	}
}

func either(a, b bool) bool { return a || b }
func minus(a, b bool) bool  { return a && !b }
func both(a, b bool) bool   { return a && b }

// P1.2: Set of lists of all kinds.
func TestSet(t *testing.T) {
	if x := Set(of(5, 7, 3, 7, 5, 6, 3, 7)); !slices.Equal(x, of(5, 6, 3, 7, 5, 7)) {
		t.Error(x)
	}
	if x := Set(nil); len(x) != 0 {
		t.Error(x)
	}
	for _, l := range lists() {
		arg := slices.Clone(l)
		if x := Set(arg); !slices.Equal(x, want(l, nil, either)) || !slices.Equal(arg, l) {
			t.Error(l, x, arg)
		}
	}
	l := extremes()
	reversed := slices.Clone(l)
	slices.Reverse(reversed)
	if x := Set(append(reversed, reversed...)); !slices.Equal(x, l) {
		t.Error(x)
	}
}

// P1.3: every pair of short lists.
func TestPairs(t *testing.T) {
	a, b := of(5, 7, 3, 7), of(5, 6, 3, 7)
	if x := Union(a, b); !slices.Equal(x, of(5, 6, 3, 7, 5, 7)) {
		t.Error(x)
	}
	if x := Minus(a, b); !slices.Equal(x, of(5, 7)) {
		t.Error(x)
	}
	if x := Both(a, b); !slices.Equal(x, of(3, 7)) {
		t.Error(x)
	}
	all := lists()
	for _, a := range all {
		for _, b := range all {
			x, y := slices.Clone(a), slices.Clone(b)
			if l := Union(x, y); !slices.Equal(l, want(a, b, either)) {
				t.Fatal(a, b, l)
			}
			if l := Minus(x, y); !slices.Equal(l, want(a, b, minus)) {
				t.Fatal(a, b, l)
			}
			if l := Both(x, y); !slices.Equal(l, want(a, b, both)) {
				t.Fatal(a, b, l)
			}
			if !slices.Equal(x, a) || !slices.Equal(y, b) {
				t.Fatal("arguments modified", a, b, x, y)
			}
		}
	}
}

// P1.3: long lists, which are not in order and have each dot several times.
func TestLongPairs(t *testing.T) {
	var a, b, two, three, six []api.Dot
	const n = 3000
	for i := 1; i <= n; i++ {
		d := api.Dot{Replica: 1 + i%7, Counter: i}
		if i%2 == 0 {
			two = append(two, d)
		}
		if i%3 == 0 {
			three = append(three, d)
		}
		if i%6 == 0 {
			six = append(six, d)
		}
	}
	for i := range 2 * len(two) {
		a = append(a, two[i*7%len(two)])
	}
	for i := range 2 * len(three) {
		b = append(b, three[i*7%len(three)])
	}
	if x := Both(a, b); !slices.Equal(x, six) {
		t.Error(x)
	}
	if x := Minus(a, b); len(x) != len(two)-len(six) || !IsSet(x) || slices.ContainsFunc(x, func(d api.Dot) bool { return d.Counter%2 != 0 || d.Counter%3 == 0 }) {
		t.Error(x)
	}
	if x := Union(a, b); len(x) != len(two)+len(three)-len(six) || !IsSet(x) || slices.ContainsFunc(x, func(d api.Dot) bool { return d.Counter%2 != 0 && d.Counter%3 != 0 }) {
		t.Error(x)
	}
}

// P1.2, P1.3 and the rules: results are new memory, even if an argument is the result already.
func TestNewMemory(t *testing.T) {
	for name, f := range map[string]func(a, b []api.Dot) []api.Dot{
		"Set":         func(a, _ []api.Dot) []api.Dot { return Set(a) },
		"Union":       Union,
		"Union empty": func(a, _ []api.Dot) []api.Dot { return Union(a, nil) },
		"Union twice": func(_, b []api.Dot) []api.Dot { return Union(nil, b) },
		"Minus":       func(a, _ []api.Dot) []api.Dot { return Minus(a, nil) },
		"Both":        Both,
	} {
		set := of(1, 1, 2, 1, 1, 2)
		// With room behind the list, an append to it would write into the argument's memory.
		back := append(slices.Clone(set), of(8, 8, 9, 9, 9, 8, 8, 9)...)
		a, b, kept := back[:3], slices.Clone(set), slices.Clone(back)
		x := f(a, b)
		if !slices.Equal(x, set) {
			t.Error(name, x)
		}
		x = append(x, api.Dot{Replica: 6, Counter: 6})
		for i := range x {
			x[i] = api.Dot{Replica: 7, Counter: 7}
		}
		if !slices.Equal(back, kept) || !slices.Equal(b, set) {
			t.Error(name, "shares memory", back, b)
		}
		if y := f(a, b); !slices.Equal(y, set) {
			t.Error(name, "retained", y)
		}
	}
}

// P1.4: dots and their texts, both ways.
func TestTextAndParse(t *testing.T) {
	for _, c := range []struct {
		replica, counter int
		text             string
	}{
		{1, 1, "1.1"}, {3, 7, "3.7"}, {10, 200, "10.200"}, {9, 90, "9.90"}, {12345, 67890, "12345.67890"},
		{api.MaxReplica, 1, "65535.1"}, {1, api.MaxCounter, "1.4294967295"}, {api.MaxReplica, api.MaxCounter, "65535.4294967295"},
	} {
		d := api.Dot{Replica: c.replica, Counter: c.counter}
		if s, e := Text(d); s != c.text || e != api.OK {
			t.Error(c, s, e)
		}
		if x, e := Parse(c.text); x != d || e != api.OK {
			t.Error(c, x, e)
		}
	}
}

// P1.4: dots that are not valid have no text.
func TestTextErrors(t *testing.T) {
	for _, d := range extremes() {
		s, e := Text(d)
		if !Valid(d) && (s != "" || e != api.ErrArg) || Valid(d) && (s == "" || e != api.OK) {
			t.Error(d, s, e)
		}
	}
}

// P1.4: what is not the text of a valid dot.
func TestParseErrors(t *testing.T) {
	long := strings.Repeat("1", 1000)
	for _, s := range []string{
		"", ".", "..", "3", "3.", ".7", "3..7", ".3.7", "3.7.", "3.7.1", "37", "3,7", "3:7", "3/7", "3 7",
		"0.7", "3.0", "0.0", "00.7", "3.00", "03.7", "3.07", "003.7", "065535.1", "1.04294967295",
		"+3.7", "3.+7", "-3.7", "3.-7", "+.7", "3.-", " 3.7", "3.7 ", "3 .7", "3. 7", "3.7\n", "\t3.7", "3.7\x00", "\x003.7",
		"65536.1", "1.4294967296", "70000.1", "655350.1", "1.42949672950", "99999.1", "1.9999999999",
		// These would be valid dots modulo 2^64.
		"18446744073709551617.1", "1.18446744073709551617", "36893488147419103233.1", "1.36893488147419103233",
		"9223372036854775808.1", "1.9223372036854775808", "1." + long, long + ".1", long, long + "." + long,
		"0x3.7", "3.0x7", "a.b", "3.7a", "3a.7", "3.a", "1e1.1", "1.1e1", "1_0.1", "1.1_0", "3.7/", "3.7:", "3.\xb7", "\xb3.7", "３.７", "3．7", "٣.٧",
	} {
		if d, e := Parse(s); d != (api.Dot{}) || e != api.ErrFormat {
			t.Errorf("%q %v %d", s, d, e)
		}
	}
}

// P1.4: every text of one or two bytes around the full stop, read as the document says.
func TestParseShort(t *testing.T) {
	valid := func(s string) bool {
		n, err := strconv.Atoi(s)
		return err == nil && n >= 1 && strconv.Itoa(n) == s
	}
	var parts []string
	for a := range 256 {
		parts = append(parts, string([]byte{byte(a)}), string([]byte{'1', byte(a)}), string([]byte{byte(a), '1'}))
	}
	for _, p := range parts {
		if d, e := Parse(p + ".5"); (e == api.OK) != valid(p) || e == api.OK && strconv.Itoa(d.Replica) != p {
			t.Errorf("%q %v %d", p, d, e)
		}
		if d, e := Parse("5." + p); (e == api.OK) != valid(p) || e == api.OK && strconv.Itoa(d.Counter) != p {
			t.Errorf("%q %v %d", p, d, e)
		}
	}
}

// P1.5: Compare is an order: reversed by exchanging, zero only of equal dots, transitive.
func TestOrder(t *testing.T) {
	edges := []int{math.MinInt, -1, 0, 1, api.MaxCounter, math.MaxInt}
	var l []api.Dot
	for _, r := range edges {
		for _, c := range edges {
			l = append(l, api.Dot{Replica: r, Counter: c})
		}
	}
	for _, a := range l {
		for _, b := range l {
			x := Compare(a, b)
			if x != -Compare(b, a) || (x == 0) != (a == b) {
				t.Error(a, b, x)
			}
			for _, c := range l {
				if x <= 0 && Compare(b, c) <= 0 && Compare(a, c) > 0 {
					t.Error(a, b, c)
				}
			}
		}
	}
}

// P1.5: what follows for sets and pairs of lists.
func TestConsequences(t *testing.T) {
	all := lists()
	for _, a := range all {
		set := Set(a)
		if !IsSet(set) || !slices.Equal(Set(set), set) {
			t.Fatal(a, set)
		}
		for _, b := range all {
			union, both, minus := Union(a, b), Both(a, b), Minus(a, b)
			if !IsSet(union) || !IsSet(both) || !IsSet(minus) {
				t.Fatal(a, b, union, both, minus)
			}
			if !slices.Equal(union, Union(b, a)) || !slices.Equal(both, Both(b, a)) {
				t.Fatal(a, b, union, both)
			}
			if !slices.Equal(Union(minus, both), set) || len(Both(minus, both)) != 0 {
				t.Fatal(a, b, minus, both)
			}
		}
	}
}

// P1.5: Parse inverts Text.
func TestInverse(t *testing.T) {
	for replica := 1; replica <= api.MaxReplica; replica = replica*3/2 + 1 {
		for counter := 1; counter <= api.MaxCounter; counter = counter*3/2 + 1 {
			d := api.Dot{Replica: replica, Counter: counter}
			s, e := Text(d)
			if x, f := Parse(s); x != d || e != api.OK || f != api.OK {
				t.Error(d, s, e, x, f)
			}
		}
	}
}
