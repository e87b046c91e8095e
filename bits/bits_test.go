package bits_test

import (
	"math"
	"slices"
	"strconv"
	"testing"

	"haystack/bits"
)

const most = 1 << 20

// lengths are those at which words begin and end.
var lengths = []int{0, 1, 2, 8, 62, 63, 64, 65, 66, 127, 128, 129, 191, 192, 193, 640, 1000, 4096, 4097}

// kinds are rules by which a bit of a row is 1.
var kinds = []struct {
	name string
	one  func(i, n int) bool
}{
	{"none", func(i, n int) bool { return false }},
	{"all", func(i, n int) bool { return true }},
	{"every other", func(i, n int) bool { return i%2 == 1 }},
	{"every third", func(i, n int) bool { return i%3 == 0 }},
	{"the first", func(i, n int) bool { return i == 0 }},
	{"the last", func(i, n int) bool { return i == n-1 }},
	{"all but the first", func(i, n int) bool { return i > 0 }},
	{"all but the last", func(i, n int) bool { return i < n-1 }},
	{"ends of words", func(i, n int) bool { return i%64 == 0 || i%64 == 63 }},
	{"every other word", func(i, n int) bool { return i/64%2 == 0 }},
	{"few, far apart", func(i, n int) bool { return i%333 == 70 }},
	{"a muddle", func(i, n int) bool { return uint32(i+1)*2654435761>>13&1 == 1 }},
}

// plain is a row of a kind.
func plain(n int, one func(i, n int) bool) []bool {
	row := make([]bool, n)
	for i := range row {
		row[i] = one(i, n)
	}
	return row
}

// each gives rows of all kinds and lengths, with their names.
func each(do func(name string, row []bool)) {
	for _, k := range kinds {
		for _, n := range lengths {
			do(k.name+" of "+strconv.Itoa(n), plain(n, k.one))
		}
	}
}

// ones is the places of a row that are 1.
func ones(row []bool) []int {
	var at []int
	for i, b := range row {
		if b {
			at = append(at, i)
		}
	}
	return at
}

// same holds the bits of a Vector against a plain row.
func same(t *testing.T, name string, v *bits.Vector, row []bool) {
	t.Helper()
	if v.Len() != len(row) {
		t.Fatalf("%s: Len %d, want %d", name, v.Len(), len(row))
	}
	for i, b := range row {
		if v.Get(i) != b {
			t.Fatalf("%s: Get(%d) %t", name, i, v.Get(i))
		}
	}
	for _, i := range []int{-1, -64, -65, math.MinInt, len(row), len(row) + 1, len(row) + 63, len(row) + 64, most, math.MaxInt} {
		if v.Get(i) && (i < 0 || i >= len(row)) {
			t.Fatalf("%s: Get(%d) is a bit that there is not", name, i)
		}
	}
}

// counts holds what a Vector counts against a plain row that is gone through.
func counts(t *testing.T, name string, v *bits.Vector, row []bool) {
	t.Helper()
	for _, b := range []bool{false, true} {
		k := 0
		for i, bit := range row {
			if got := v.Rank(b, i); got != k {
				t.Fatalf("%s: Rank(%t, %d) %d, want %d", name, b, i, got, k)
			}
			if bit != b {
				continue
			}
			if got := v.Select(b, k); got != i {
				t.Fatalf("%s: Select(%t, %d) %d, want %d", name, b, k, got, i)
			}
			k++
		}
		for _, i := range []int{len(row), len(row) + 1, len(row) + 63, len(row) + 64, 2 * most, math.MaxInt - 1, math.MaxInt} {
			if got := v.Rank(b, i); got != k {
				t.Fatalf("%s: Rank(%t, %d) %d, want %d", name, b, i, got, k)
			}
		}
		for _, i := range []int{0, -1, -64, -65, math.MinInt + 1, math.MinInt} {
			if got := v.Rank(b, i); got != 0 {
				t.Fatalf("%s: Rank(%t, %d) %d, want 0", name, b, i, got)
			}
		}
		for _, none := range []int{-1, -2, -64, math.MinInt, k, k + 1, k + 64, most + 1, math.MaxInt} {
			if got := v.Select(b, none); got != -1 {
				t.Fatalf("%s: Select(%t, %d) %d, want -1", name, b, none, got)
			}
		}
		if b && v.Ones() != k {
			t.Fatalf("%s: Ones %d, want %d", name, v.Ones(), k)
		}
	}
}

// P2.1

func TestNewLengths(t *testing.T) {
	for _, c := range []struct{ n, want int }{
		{math.MinInt, 0}, {-most - 1, 0}, {-64, 0}, {-1, 0},
		{0, 0}, {1, 1}, {2, 2}, {63, 63}, {64, 64}, {65, 65},
		{most - 1, most - 1}, {most, most}, {most + 1, most}, {2 * most, most}, {math.MaxInt, most},
	} {
		name := "New(" + strconv.Itoa(c.n) + ")"
		same(t, name, bits.New(c.n), make([]bool, c.want))

		// The places that there are next to those that there are not.
		row := make([]bool, c.want)
		if c.want > 0 {
			row[0], row[c.want-1] = true, true
		}
		v := bits.New(c.n, -1, 0, c.want-1, c.want)
		same(t, name+" with ones", v, row)
		if v.Ones() != len(ones(row)) {
			t.Error(name, v.Ones())
		}
	}
}

func TestNewOnes(t *testing.T) {
	for _, c := range []struct {
		name string
		n    int
		ones []int
		want []int
	}{
		{"a nil list", 5, nil, nil},
		{"none", 5, []int{}, nil},
		{"one", 5, []int{2}, []int{2}},
		{"some", 8, []int{1, 3, 6}, []int{1, 3, 6}},
		{"out of order", 130, []int{129, 0, 64, 63}, []int{0, 63, 64, 129}},
		{"named twice", 8, []int{3, 3}, []int{3}},
		{"named thrice, apart", 70, []int{3, 65, 3, 65, 3}, []int{3, 65}},
		{"below 0", 8, []int{-1, -8, 2, -64, -63, math.MinInt}, []int{2}},
		{"from n on", 8, []int{8, 9, 7, 63, 64, 72, math.MaxInt}, []int{7}},
		{"from n on, in one word", 65, []int{65, 66, 127, 128}, nil},
		{"from n on, whole words", 64, []int{64, 63, 65, 128}, []int{63}},
		{"of no bits", 0, []int{0, 1, -1}, nil},
		{"of less than no bits", -3, []int{0, -1, -3}, nil},
		{"above the greatest row", most + 9, []int{most - 1, most, most + 8}, []int{most - 1}},
	} {
		row := make([]bool, min(max(c.n, 0), most))
		for _, i := range c.want {
			row[i] = true
		}
		v := bits.New(c.n, c.ones...)
		same(t, c.name, v, row)
		if v.Ones() != len(c.want) || v.Rank(false, math.MaxInt) != len(row)-len(c.want) {
			t.Error(c.name, v.Ones())
		}
		// A bit beyond the row must not show up where all bits are turned.
		if f := v.Flip(); f.Ones() != len(row)-len(c.want) {
			t.Error(c.name, "turned", f.Ones())
		}
	}
}

func TestNewAsOf(t *testing.T) {
	each(func(name string, row []bool) {
		at := ones(row)
		slices.Reverse(at)
		same(t, "New, "+name, bits.New(len(row), append(at, at...)...), row)
		same(t, "Of, "+name, bits.Of(row...), row)
	})
}

func TestOf(t *testing.T) {
	same(t, "no bits", bits.Of(), nil)
	same(t, "a nil list", bits.Of(nil...), nil)
	same(t, "an empty list", bits.Of([]bool{}...), nil)
	same(t, "a 0", bits.Of(false), []bool{false})
	same(t, "a 1", bits.Of(true), []bool{true})
	same(t, "some", bits.Of(true, false, false, true), []bool{true, false, false, true})
}

func TestOfTooMany(t *testing.T) {
	for _, n := range []int{most - 1, most, most + 1, most + 64, most + 1000} {
		row := plain(n, func(i, n int) bool { return i%7 == 0 || i >= most-2 })
		want := row[:min(n, most)]
		v := bits.Of(row...)
		same(t, strconv.Itoa(n), v, want)
		if v.Ones() != len(ones(want)) {
			t.Error(n, v.Ones())
		}
	}
}

// P2.2

func TestExample(t *testing.T) {
	v := bits.New(8, 1, 3, 6)
	if a, b, c := v.Rank(true, 4), v.Select(true, 2), v.Select(false, 2); a != 2 || b != 6 || c != 4 {
		t.Error(a, b, c)
	}
}

func TestCounts(t *testing.T) {
	each(func(name string, row []bool) {
		counts(t, "Of, "+name, bits.Of(row...), row)
		counts(t, "New, "+name, bits.New(len(row), ones(row)...), row)
	})
}

// Each row of few bits, and one of them behind a word.
func TestCountsOfSmallRows(t *testing.T) {
	for n := range 11 {
		for x := range 1 << n {
			row := plain(n, func(i, n int) bool { return x>>i&1 == 1 })
			name := strconv.Itoa(n) + " bits of " + strconv.Itoa(x)
			counts(t, name, bits.Of(row...), row)
			row = slices.Concat(plain(60, func(i, n int) bool { return i%5 == 0 }), row)
			counts(t, name+" behind others", bits.Of(row...), row)
		}
	}
}

func TestGreatestRow(t *testing.T) {
	for _, k := range kinds {
		row := plain(most, k.one)
		v := bits.Of(row...)
		counts(t, k.name, v, row)
		for i, b := range row {
			row[i] = !b
		}
		f := v.Flip()
		same(t, k.name+", turned", f, row)
		counts(t, k.name+", turned", f, row)
	}
}

func TestFlip(t *testing.T) {
	each(func(name string, row []bool) {
		turned := make([]bool, len(row))
		for i, b := range row {
			turned[i] = !b
		}
		v := bits.Of(row...)
		f := v.Flip()
		same(t, name+", turned", f, turned)
		counts(t, name+", turned", f, turned)
		same(t, name+", as it was", v, row)
		counts(t, name+", as it was", v, row)
		same(t, name+", turned twice", f.Flip(), row)
		counts(t, name+", turned twice", f.Flip(), row)
	})
}

// P2.3

func TestRankAndSelectMeet(t *testing.T) {
	each(func(name string, row []bool) {
		v := bits.Of(row...)
		for _, b := range []bool{false, true} {
			for k := range v.Rank(b, v.Len()) {
				at := v.Select(b, k)
				if v.Get(at) != b || v.Rank(b, at) != k {
					t.Fatalf("%s: Select(%t, %d) is %d, Rank of it %d", name, b, k, at, v.Rank(b, at))
				}
			}
		}
		for i, b := range row {
			if got := v.Select(b, v.Rank(b, i)); got != i {
				t.Fatalf("%s: Select(%t) of Rank of %d is %d", name, b, i, got)
			}
		}
	})
}

func TestNothingAskedChanges(t *testing.T) {
	each(func(name string, row []bool) {
		v := bits.Of(row...)
		for i := -70; i < len(row)+70; i++ {
			v.Len()
			v.Get(i)
			v.Ones()
			v.Rank(false, i)
			v.Rank(true, i)
			v.Select(false, i)
			v.Select(true, i)
		}
		v.Flip().Flip()
		same(t, name, v, row)
		counts(t, name, v, row)
	})
}

func TestHandedIn(t *testing.T) {
	room := []int{70, -1, 3, 80, 3, 5, 6} // the last two are spare room
	at := room[:5]
	v := bits.New(75, at...)
	if !slices.Equal(room, []int{70, -1, 3, 80, 3, 5, 6}) {
		t.Error("places changed", room)
	}
	for i := range room {
		room[i] = i + 10
	}
	same(t, "places kept", v, plain(75, func(i, n int) bool { return i == 3 || i == 70 }))

	spare := []bool{true, false, true, true, false}
	row := spare[:3]
	v = bits.Of(row...)
	if !slices.Equal(spare, []bool{true, false, true, true, false}) {
		t.Error("bits changed", spare)
	}
	for i := range spare {
		spare[i] = i == 1
	}
	same(t, "bits kept", v, []bool{true, false, true})
}

func TestNilVector(t *testing.T) {
	var v *bits.Vector
	same(t, "nil", v, nil)
	counts(t, "nil", v, nil)
	if v.Select(true, 0) != -1 || v.Select(false, 0) != -1 || v.Ones() != 0 {
		t.Error("a nil Vector has bits")
	}
	f := v.Flip()
	same(t, "nil, turned", f, nil)
	counts(t, "nil, turned", f, nil)
}

func TestEmptyVectors(t *testing.T) {
	for name, v := range map[string]*bits.Vector{"zero value": new(bits.Vector), "New(0)": bits.New(0), "Of()": bits.Of()} {
		same(t, name, v, nil)
		counts(t, name, v, nil)
		same(t, name+", turned", v.Flip(), nil)
		counts(t, name+", turned", v.Flip(), nil)
	}
}
