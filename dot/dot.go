// Package dot: dots, their order, sets in order, text (layer 1).
package dot

import (
	"cmp"
	"slices"
	"strconv"
	"strings"

	"pannier/api"
)

// Valid reports whether a dot is allowed.
func Valid(d api.Dot) bool {
	return 1 <= d.Replica && d.Replica <= api.MaxReplica && 1 <= d.Counter && d.Counter <= api.MaxCounter
}

// Compare returns whether a dot is before another one (-1), after it (1), or equal (0).
func Compare(a, b api.Dot) int {
	return cmp.Or(cmp.Compare(a.Counter, b.Counter), cmp.Compare(a.Replica, b.Replica))
}

// IsSet reports whether a list is a set: in increasing order, each dot once.
func IsSet(l []api.Dot) bool {
	for i := 1; i < len(l); i++ {
		if Compare(l[i-1], l[i]) >= 0 {
			return false
		}
	}
	return true
}

// Set returns the set of the dots of a list.
func Set(l []api.Dot) []api.Dot { return order(slices.Clone(l)) }

// order makes a set of a list in the memory of the list.
func order(l []api.Dot) []api.Dot {
	slices.SortFunc(l, Compare)
	return slices.Compact(l)
}

// Has reports whether a list has a dot.
func Has(l []api.Dot, d api.Dot) bool { return slices.Contains(l, d) }

// Union, Minus and Both return the sets of the dots that are in one of two lists, in the first one alone, and in both.
func Union(a, b []api.Dot) []api.Dot { return order(slices.Concat(a, b)) }
func Minus(a, b []api.Dot) []api.Dot { return pick(a, b, false) }
func Both(a, b []api.Dot) []api.Dot  { return pick(a, b, true) }

// pick returns the set of the dots of a that are in b, or of those that are not.
func pick(a, b []api.Dot, in bool) []api.Dot {
	// b is put in order so that each dot is found without a walk through all of b.
	other := Set(b)
	return slices.DeleteFunc(Set(a), func(d api.Dot) bool {
		_, found := slices.BinarySearchFunc(other, d, Compare)
		return found != in
	})
}

// Text returns the text of a dot, or an error, Parse the dot with a text, or an error.
func Text(d api.Dot) (string, api.Errno) {
	if !Valid(d) {
		return "", api.ErrArg
	}
	return strconv.Itoa(d.Replica) + "." + strconv.Itoa(d.Counter), api.OK
}

func Parse(s string) (api.Dot, api.Errno) {
	first, second, _ := strings.Cut(s, ".")
	replica, good := number(first, api.MaxReplica)
	counter, fine := number(second, api.MaxCounter)
	if !good || !fine {
		return api.Dot{}, api.ErrFormat
	}
	return api.Dot{Replica: replica, Counter: counter}, api.OK
}

// number reads a decimal number from 1 to most.
func number(s string, most int) (int, bool) {
	// A leading zero is wrong even alone, because 0 is too small.
	if s == "" || s[0] == '0' {
		return 0, false
	}
	n := 0
	for _, c := range []byte(s) {
		if c < '0' || '9' < c {
			return 0, false
		}
		// It stops before n could overflow, however long the text is.
		if n = 10*n + int(c-'0'); n > most {
			return 0, false
		}
	}
	return n, true
}
