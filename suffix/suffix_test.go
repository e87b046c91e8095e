package suffix_test

import (
	"math"
	"slices"
	"strconv"
	"testing"
	"time"

	"haystack/api"
	"haystack/suffix"
)

// lengths are those of short rows.
var lengths = []int{0, 1, 2, 3, 4, 5, 7, 8, 9, 16, 17, 33, 64, 100, 200}

// kinds are rules by which the symbols of a row are made.
var kinds = []struct {
	name string
	sym  func(i int) int
}{
	{"noughts", func(i int) int { return 0 }},
	{"one alone", func(i int) int { return 7 }},
	{"the greatest alone", func(i int) int { return math.MaxInt }},
	{"upwards", func(i int) int { return i }},
	{"downwards", func(i int) int { return math.MaxInt - i }},
	{"by turns", func(i int) int { return i % 2 }},
	{"the least and the greatest by turns", func(i int) int { return (i + 1) % 2 * math.MaxInt }},
	{"each third", func(i int) int { return (i % 3) / 2 }},
	{"each fifth", func(i int) int { return muddle(i % 5) }},
	{"a nought, then ones", func(i int) int { return min(i, 1) }},
	{"ones, then noughts, then ones", func(i int) int { return 1 - i/99%2 }},
	{"ever more noughts between ones", func(i int) int { return 1 - min(i&(i+1), 1) }},
	{"of two", func(i int) int { return muddle(i) & 1 }},
	{"of four, far from each other", func(i int) int { return muddle(i) & 3 << 60 }},
	{"of many", func(i int) int { return muddle(i) & 0xff }},
	{"a muddle", muddle},
}

// muddle is a number, not below 0, that looks like none near it.
func muddle(i int) int {
	v := (uint64(i) + 1) * 0x9e3779b97f4a7c15
	v = (v ^ v>>29) * 0xbf58476d1ce4e5b9
	return int((v ^ v>>32) >> 1)
}

// plain is a row of a kind.
func plain(n int, sym func(i int) int) []int {
	row := make([]int, n)
	for i := range row {
		row[i] = sym(i)
	}
	return row
}

// upTo is 0 to n - 1.
func upTo(n int) []int { return plain(n, func(i int) int { return i }) }

// each gives short rows of all kinds and lengths, with their names, and all rows of up to seven symbols of three.
func each(do func(name string, row []int)) {
	for _, k := range kinds {
		for _, n := range lengths {
			do(k.name+", "+strconv.Itoa(n), plain(n, k.sym))
		}
	}
	for n, all := 0, 1; n <= 7; n, all = n+1, all*3 {
		for which := range all {
			row := make([]int, n)
			for i, left := 0, which; i < n; i, left = i+1, left/3 {
				row[i] = left % 3
			}
			do("row "+strconv.Itoa(which)+" of "+strconv.Itoa(n), row)
		}
	}
}

// plainOrder is the endings by a plain sort of them; slices.Compare has one that is another's beginning first.
func plainOrder(s []int) []int {
	order := upTo(len(s))
	slices.SortFunc(order, func(a, b int) int { return slices.Compare(s[a:], s[b:]) })
	return order
}

// inCommon goes through two endings.
func inCommon(s []int, a, b int) int {
	n := 0
	for a+n < len(s) && b+n < len(s) && s[a+n] == s[b+n] {
		n++
	}
	return n
}

// plainCommon goes through each two neighbours.
func plainCommon(s, sa []int) []int {
	common := make([]int, len(sa))
	for p := 1; p < len(sa); p++ {
		common[p] = inCommon(s, sa[p-1], sa[p])
	}
	return common
}

// ordered is an Array that there must be.
func ordered(t *testing.T, name string, s []int) []int {
	t.Helper()
	sa, e := suffix.Array(s...)
	if e != api.OK || len(sa) != len(s) {
		t.Fatalf("%s: Array of %d symbols: %d places, %v", name, len(s), len(sa), e)
	}
	return sa
}

// refused tells of anything answered but an error.
func refused(t *testing.T, name string, want api.Errno, l []int, e api.Errno) {
	t.Helper()
	if len(l) != 0 || e != want {
		t.Errorf("%s: %d numbers, %v, want %v", name, len(l), e, want)
	}
}

// answered tells of anything answered but this row.
func answered(t *testing.T, name string, want, l []int, e api.Errno) {
	t.Helper()
	if !slices.Equal(l, want) || e != api.OK {
		t.Errorf("%s: %d, %v, want %d", name, l, e, want)
	}
}

// told is rows with what the document's words make of them.
var told = []struct {
	name              string
	s, array, commons []int
}{
	{"the chapter's example", []int{'b', 'a', 'n', 'a', 'n', 'a'}, []int{5, 3, 1, 0, 4, 2}, []int{0, 1, 3, 0, 0, 2}},
	{"nil", nil, nil, nil},
	{"no symbol", []int{}, nil, nil},
	{"one", []int{5}, []int{0}, []int{0}},
	{"nought", []int{0}, []int{0}, []int{0}},
	{"the greatest", []int{math.MaxInt}, []int{0}, []int{0}},
	{"two alike", []int{5, 5}, []int{1, 0}, []int{0, 1}},
	{"two noughts", []int{0, 0}, []int{1, 0}, []int{0, 1}},
	{"two upwards", []int{5, 6}, []int{0, 1}, []int{0, 0}},
	{"two downwards", []int{6, 5}, []int{1, 0}, []int{0, 0}},
	{"the least and the greatest", []int{0, math.MaxInt}, []int{0, 1}, []int{0, 0}},
	{"the greatest and the least", []int{math.MaxInt, 0}, []int{1, 0}, []int{0, 0}},
	{"the two greatest", []int{math.MaxInt, math.MaxInt - 1, math.MaxInt}, []int{1, 2, 0}, []int{0, 0, 1}},
	{"one that is another's beginning", []int{1, 2, 1, 2, 3, 1, 2}, []int{5, 0, 2, 6, 1, 3, 4}, []int{0, 2, 2, 0, 1, 1, 0}},
	{"the beginning, ahead of nought", []int{1, 0, 1}, []int{1, 2, 0}, []int{0, 0, 1}},
	{"all alike", []int{4, 4, 4, 4, 4}, []int{4, 3, 2, 1, 0}, []int{0, 1, 2, 3, 4}},
	{"a closed row", []int{2, 1, 3, 1, 3, 1, 0}, []int{6, 5, 3, 1, 0, 4, 2}, []int{0, 0, 1, 3, 0, 0, 2}},
	{"not by bytes", []int{256, 1, 255, 65536}, []int{1, 2, 0, 3}, []int{0, 0, 0, 0}},
}

// P5.1

func TestArrayTold(t *testing.T) {
	for _, c := range told {
		l, e := suffix.Array(c.s...)
		answered(t, c.name, c.array, l, e)
	}
	l, e := suffix.Array()
	answered(t, "nothing", nil, l, e)
}

func TestArrayOfPlainSort(t *testing.T) {
	each(func(name string, row []int) {
		if got, want := ordered(t, name, row), plainOrder(row); !slices.Equal(got, want) {
			t.Fatalf("%s: Array of %d: %d, want %d", name, row, got, want)
		}
	})
}

// The answer has each place once, and each ending is ahead of the next one, symbol by symbol.
func TestArrayInOrder(t *testing.T) {
	each(func(name string, row []int) {
		sa := ordered(t, name, row)
		if got := slices.Sorted(slices.Values(sa)); !slices.Equal(got, upTo(len(row))) {
			t.Fatalf("%s: Array of %d: places %d", name, row, sa)
		}
		for p := 1; p < len(sa); p++ {
			one, other := row[sa[p-1]:], row[sa[p]:]
			n := inCommon(row, sa[p-1], sa[p])
			if n == len(other) || n < len(one) && one[n] > other[n] {
				t.Fatalf("%s: Array of %d: %d ahead of %d", name, row, one, other)
			}
		}
	})
}

// One that is below 0 is found wherever it stands, alone and among others.
func TestArrayBelowNought(t *testing.T) {
	for _, n := range []int{1, 2, 3, 10, 1000, api.MaxAll} {
		for _, c := range []int{-1, -2, -256, math.MinInt32, math.MinInt + 1, math.MinInt} {
			for _, at := range []int{0, n / 2, n - 1} {
				row := plain(n, muddle)
				row[at] = c
				l, e := suffix.Array(row...)
				refused(t, strconv.Itoa(c)+" at "+strconv.Itoa(at)+" of "+strconv.Itoa(n), api.ErrArg, l, e)
			}
		}
	}
	l, e := suffix.Array(plain(5, func(i int) int { return -i - 1 })...)
	refused(t, "all below 0", api.ErrArg, l, e)
}

func TestArrayOfMany(t *testing.T) {
	for _, k := range kinds {
		for _, n := range []int{api.MaxAll - 1, api.MaxAll} {
			row := plain(n, k.sym)
			inOrder(t, k.name+", "+strconv.Itoa(n), row, ordered(t, k.name, row))
		}
		for _, n := range []int{api.MaxAll + 1, api.MaxAll + 2, 2 * api.MaxAll} {
			l, e := suffix.Array(plain(n, k.sym)...)
			refused(t, k.name+", "+strconv.Itoa(n), api.ErrLong, l, e)
		}
	}
}

// inOrder is a plain sort's proof without the sort: of two neighbours with the same first symbol, what is behind it is in order.
func inOrder(t *testing.T, name string, s, sa []int) {
	t.Helper()
	places := make([]int, len(s)+1)
	for p, at := range sa {
		if at < 0 || at >= len(s) || places[at] != 0 {
			t.Fatalf("%s: place %d below 0, too great, or there twice", name, at)
		}
		places[at] = p + 1
	}
	for p := 1; p < len(sa); p++ {
		one, other := sa[p-1], sa[p]
		if s[one] > s[other] || s[one] == s[other] && places[one+1] >= places[other+1] {
			t.Fatalf("%s: the ending at %d ahead of that at %d", name, one, other)
		}
	}
}

// Too many come before one that is below 0.
func TestArrayErrsInOrder(t *testing.T) {
	for _, n := range []int{api.MaxAll + 1, 2 * api.MaxAll} {
		for _, at := range []int{0, n / 2, api.MaxAll - 1, n - 1} {
			row := make([]int, n)
			row[at] = -1
			l, e := suffix.Array(row...)
			refused(t, strconv.Itoa(n)+" with one below 0", api.ErrLong, l, e)
		}
	}
}

// P5.2

func TestPlacesTold(t *testing.T) {
	for _, c := range []struct{ sa, want []int }{
		{nil, nil},
		{[]int{}, nil},
		{[]int{0}, []int{0}},
		{[]int{0, 1}, []int{0, 1}},
		{[]int{1, 0}, []int{1, 0}},
		{[]int{2, 0, 1}, []int{1, 2, 0}},
		{[]int{1, 2, 0}, []int{2, 0, 1}},
		{[]int{5, 3, 1, 0, 4, 2}, []int{3, 2, 5, 1, 4, 0}},
	} {
		l, e := suffix.Places(c.sa)
		answered(t, "Places", c.want, l, e)
	}
}

// Of all rows of up to five places, those that are each of 0 to len - 1 once are taken, and no other.
func TestPlacesAllShort(t *testing.T) {
	for n, all := 0, 1; n <= 5; n, all = n+1, all*(n+3) {
		for which := range all {
			sa := make([]int, n)
			for i, left := 0, which; i < n; i, left = i+1, left/(n+2) {
				sa[i] = left%(n+2) - 1
			}
			l, e := suffix.Places(sa)
			if !slices.Equal(slices.Sorted(slices.Values(sa)), upTo(n)) {
				refused(t, "Places of no order", api.ErrArg, l, e)
				continue
			}
			leadsBack(t, "a short order", sa, l, e)
		}
	}
}

// leadsBack tells of places that are not those of an order.
func leadsBack(t *testing.T, name string, sa, places []int, e api.Errno) {
	t.Helper()
	if e != api.OK || len(places) != len(sa) {
		t.Fatalf("%s: %d places of %d, %v", name, len(places), len(sa), e)
	}
	for at, p := range places {
		if p < 0 || p >= len(sa) || sa[p] != at {
			t.Fatalf("%s: %d told as the place of the ending at %d", name, p, at)
		}
	}
	back, e := suffix.Places(places)
	if !slices.Equal(back, sa) || e != api.OK {
		t.Fatalf("%s: Places of Places, %v: other than the order", name, e)
	}
}

func TestPlacesOfArray(t *testing.T) {
	each(func(name string, row []int) {
		sa := ordered(t, name, row)
		l, e := suffix.Places(sa)
		leadsBack(t, name, sa, l, e)
	})
}

func TestPlacesOfNoOrder(t *testing.T) {
	for _, n := range []int{1, 2, 3, 6, 65, 1000, api.MaxAll} {
		for _, at := range []int{0, n / 2, n - 1} {
			for _, place := range []int{math.MinInt, -n - 1, -n, -2, -1, n, n + 1, 2 * n, math.MaxInt} {
				sa := upTo(n)
				slices.Reverse(sa)
				sa[at] = place
				l, e := suffix.Places(sa)
				refused(t, strconv.Itoa(place)+" of "+strconv.Itoa(n), api.ErrArg, l, e)
			}
			sa := upTo(n)
			sa[at] = (at + 1) % n // stands twice, and at lacks; of one place it is the order still
			l, e := suffix.Places(sa)
			if n == 1 {
				answered(t, "one place", []int{0}, l, e)
			} else {
				refused(t, "a place twice of "+strconv.Itoa(n), api.ErrArg, l, e)
			}
		}
	}
	for _, sa := range [][]int{{1}, {-1}, {0, 0}, {1, 1}, {1, 2}, {0, 2}, {2, 1, 3}, {0, 1, 2, 2}, {3, 2, 1}} {
		l, e := suffix.Places(sa)
		refused(t, "Places", api.ErrArg, l, e)
	}
}

// The chapter names no length for Places: it is asked of orders alone.
func TestPlacesOfMany(t *testing.T) {
	for _, n := range []int{api.MaxAll - 1, api.MaxAll, api.MaxAll + 1, 4 * api.MaxAll} {
		sa := upTo(n)
		slices.SortFunc(sa, func(a, b int) int { return muddle(a) - muddle(b) })
		l, e := suffix.Places(sa)
		leadsBack(t, strconv.Itoa(n), sa, l, e)
		sa[n-1] = sa[0]
		l, e = suffix.Places(sa)
		refused(t, "a place twice of "+strconv.Itoa(n), api.ErrArg, l, e)
	}
}

// P5.3

func TestCommonTold(t *testing.T) {
	for _, c := range told {
		l, e := suffix.Common(c.s, c.array)
		answered(t, c.name, c.commons, l, e)
	}
	for what, none := range map[string][]int{"nil": nil, "an empty list": {}} {
		l, e := suffix.Common(nil, none)
		answered(t, "no symbol and "+what, nil, l, e)
		l, e = suffix.Common([]int{}, none)
		answered(t, "an empty list and "+what, nil, l, e)
	}
}

func TestCommonOfPlainComparison(t *testing.T) {
	each(func(name string, row []int) {
		sa := plainOrder(row)
		l, e := suffix.Common(row, sa)
		answered(t, name, plainCommon(row, sa), l, e)
	})
}

// Neighbours with nothing in common, with something, and with all of the shorter one.
func TestCommonParts(t *testing.T) {
	nothing := plain(50, func(i int) int { return 100 - 2*i })
	l, e := suffix.Common(nothing, plainOrder(nothing))
	answered(t, "nothing", make([]int, 50), l, e)

	all := plain(50, func(i int) int { return 9 })
	l, e = suffix.Common(all, plainOrder(all))
	answered(t, "all of the shorter one", upTo(50), l, e)

	some := []int{3, 3, 3, 1, 3, 3, 3, 2, 3, 3, 3, 0}
	l, e = suffix.Common(some, []int{11, 3, 7, 10, 2, 6, 9, 1, 5, 8, 0, 4})
	answered(t, "something", []int{0, 0, 0, 0, 1, 1, 1, 2, 2, 2, 3, 3}, l, e)
}

func TestCommonErrs(t *testing.T) {
	for what, sa := range map[string][]int{"nil": nil, "an order": {1, 0}, "no order": {-1, 7}, "more": upTo(api.MaxAll + 1)} {
		for _, at := range []int{0, 1, api.MaxAll, api.MaxAll + 1} {
			many := make([]int, api.MaxAll+2)
			l, e := suffix.Common(many, sa)
			refused(t, "too many and "+what, api.ErrLong, l, e)
			many[at] = -1
			l, e = suffix.Common(many, sa)
			refused(t, "too many, one below 0, and "+what, api.ErrLong, l, e)
		}
		for _, s := range [][]int{{-1}, {-1, 0}, {0, -1}, {math.MinInt, 3}, {-1, -2}} {
			l, e := suffix.Common(s, sa)
			refused(t, "one below 0 and "+what, api.ErrArg, l, e)
		}
	}
}

func TestCommonOfNotTheArray(t *testing.T) {
	each(func(name string, row []int) {
		sa := plainOrder(row)
		for what, wrong := range wrongs(sa) {
			l, e := suffix.Common(row, wrong)
			refused(t, name+", "+what, api.ErrArg, l, e)
		}
	})
}

// wrongs is what is not this order, but looks like it.
func wrongs(sa []int) map[string][]int {
	n := len(sa)
	w := map[string][]int{"one more": append(slices.Clone(sa), n), "nought more": append(slices.Clone(sa), 0), "as long again": append(slices.Clone(sa), append([]int{-1}, sa...)...)}
	if n == 0 {
		return w
	}
	w["nil"], w["an empty list"] = nil, []int{}
	w["the last lacks"], w["the first lacks"] = sa[:n-1], sa[1:]
	for i, what := range []string{"first", "last"} {
		at := i * (n - 1)
		for _, place := range []int{math.MinInt, -1, n, sa[at] + n, sa[at] - n, math.MaxInt} {
			w[strconv.Itoa(place)+" "+what] = slices.Concat(sa[:at], []int{place}, sa[at+1:])
		}
	}
	for p := 1; p < n; p++ {
		if p > 5 && p < n-5 && p != n/2 {
			continue
		}
		where := " at " + strconv.Itoa(p)
		w["exchanged"+where] = slices.Concat(sa[:p-1], []int{sa[p], sa[p-1]}, sa[p+1:])
		w["a place twice"+where] = slices.Concat(sa[:p-1], []int{sa[p], sa[p]}, sa[p+1:])
	}
	return w
}

// The Array of another row is taken just where it is this one's too.
func TestCommonOfAnotherRow(t *testing.T) {
	each(func(name string, row []int) {
		for _, k := range kinds {
			another := plainOrder(plain(len(row), k.sym))
			l, e := suffix.Common(row, another)
			if sa := plainOrder(row); slices.Equal(another, sa) {
				answered(t, name+" and the Array of "+k.name, plainCommon(row, sa), l, e)
			} else {
				refused(t, name+" and the Array of "+k.name, api.ErrArg, l, e)
			}
		}
	})
}

func TestCommonOfMany(t *testing.T) {
	row := plain(api.MaxAll, muddle)
	sa := ordered(t, "a muddle", row)
	for what, wrong := range wrongs(sa) {
		l, e := suffix.Common(row, wrong)
		refused(t, "MaxAll symbols, "+what, api.ErrArg, l, e)
	}
	l, e := suffix.Common(append(row, 0), sa)
	refused(t, "MaxAll + 1 symbols", api.ErrLong, l, e)
}

// P5.4

// calls is the three, each with what is good for it made of a row.
var calls = []struct {
	name string
	in   func(row []int) [][]int
	call func(in [][]int) ([]int, api.Errno)
}{
	{"Array", func(row []int) [][]int { return [][]int{row} }, func(in [][]int) ([]int, api.Errno) { return suffix.Array(in[0]...) }},
	{"Places", func(row []int) [][]int { return [][]int{plainOrder(row)} }, func(in [][]int) ([]int, api.Errno) { return suffix.Places(in[0]) }},
	{"Common", func(row []int) [][]int { return [][]int{row, plainOrder(row)} }, func(in [][]int) ([]int, api.Errno) { return suffix.Common(in[0], in[1]) }},
}

// roomy is a list with spare room that is told apart from it.
func roomy(l []int) []int {
	return append(slices.Clone(l), -90, -91, -92)[: len(l) : len(l)+3]
}

// whole is a list and its spare room.
func whole(l []int) []int { return l[:cap(l)] }

func TestHandedIn(t *testing.T) {
	each(func(name string, row []int) {
		for _, c := range calls {
			in := c.in(row)
			var were [][]int
			for i := range in {
				in[i] = roomy(in[i])
				were = append(were, slices.Clone(whole(in[i])))
			}
			l, e := c.call(in)
			kept := slices.Clone(l)
			for i := range in {
				if !slices.Equal(whole(in[i]), were[i]) {
					t.Fatalf("%s: %s changed %d to %d", name, c.name, were[i], whole(in[i]))
				}
				for j := range whole(in[i]) {
					whole(in[i])[j] = -93
				}
			}
			answered(t, name+", "+c.name+" kept what was handed in", kept, l, e)
		}
	})
}

func TestAnsweredIsNew(t *testing.T) {
	each(func(name string, row []int) {
		for _, c := range calls {
			in := c.in(row)
			for i := range in {
				in[i] = roomy(in[i])
			}
			want, e := c.call(in)
			want = slices.Clone(want)
			one, _ := c.call(in)
			other, _ := c.call(in)
			for i := range whole(one) {
				whole(one)[i] = -94
			}
			answered(t, name+", "+c.name+" shares an answer with another", want, other, e)
			for i := range in {
				if slices.Contains(whole(in[i]), -94) {
					t.Fatalf("%s: %s answers what was handed in", name, c.name)
				}
			}
			l, e := c.call(in)
			answered(t, name+", "+c.name+" once more", want, l, e)
		}
	})
}

// A refused list is no more changed than one that is taken.
func TestRefusedIsUnchanged(t *testing.T) {
	s, sa := roomy([]int{2, 1, -1}), roomy([]int{1, 0, 1})
	suffix.Array(s...)
	suffix.Places(sa)
	suffix.Common(s, sa)
	suffix.Common(sa, s)
	suffix.Common([]int{3, 2, 1}, sa)
	if !slices.Equal(whole(s), []int{2, 1, -1, -90, -91, -92}) || !slices.Equal(whole(sa), []int{1, 0, 1, -90, -91, -92}) {
		t.Error(whole(s), whole(sa))
	}
}

// One list may be both the row and its order.
func TestRowThatIsItsOrder(t *testing.T) {
	for _, s := range [][]int{{0}, {1, 0}, {0, 1}} {
		l, e := suffix.Common(s, s)
		answered(t, "a row that is its order", make([]int, len(s)), l, e)
	}
}

// great is rows of MaxAll symbols that repeat themselves after so many, by places that no two symbols within these share.
var great = []struct {
	name  string
	after int
}{
	{"all alike", 1},
	{"two by turns", 2},
	{"repeated after a few", 7},
	{"repeated after some", 256},
	{"repeated after many", 20011},
	{"repeated but once, by one symbol", api.MaxAll - 1},
	{"a muddle", api.MaxAll},
}

func TestQuickEnough(t *testing.T) {
	for _, g := range great {
		row := plain(api.MaxAll, func(i int) int { return muddle(i % g.after) })
		var sa, places, common []int
		quick(t, g.name+", Array", func() { sa, _ = suffix.Array(row...) })
		inOrder(t, g.name, row, sa)
		quick(t, g.name+", Places", func() { places, _ = suffix.Places(sa) })
		leadsBack(t, g.name, sa, places, api.OK)
		quick(t, g.name+", Common", func() { common, _ = suffix.Common(row, sa) })
		if len(common) != len(row) || common[0] != 0 {
			t.Fatalf("%s: %d in common", g.name, len(common))
		}
		for p := 1; p < len(common); p++ {
			want := 0
			if one, other := sa[p-1], sa[p]; one%g.after == other%g.after {
				want = len(row) - max(one, other)
			}
			if common[p] != want {
				t.Fatalf("%s: %d in common at %d, want %d", g.name, common[p], p, want)
			}
		}
		slices.Reverse(sa)
		quick(t, g.name+", Common of another order", func() { suffix.Common(row, sa) })
	}
}

// quick tells of what takes long each time; the least of several times is its own, what others on the machine do is not in it.
func quick(t *testing.T, name string, do func()) {
	t.Helper()
	least := time.Hour
	for range 5 {
		begin := time.Now()
		do()
		if least = min(least, time.Since(begin)); least < 300*time.Millisecond {
			return
		}
	}
	t.Errorf("%s of MaxAll symbols takes %v", name, least)
}
