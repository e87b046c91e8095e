package bwt_test

import (
	"math"
	"slices"
	"strconv"
	"testing"
	"time"

	"haystack/api"
	"haystack/bwt"
	"haystack/suffix"
)

// lengths are those of short rows, without the 0 that closes them.
var lengths = []int{0, 1, 2, 3, 4, 5, 7, 8, 9, 16, 17, 33, 64, 100, 200}

// kinds are rules by which the symbols of a row are made, from 1 on.
var kinds = []struct {
	name string
	sym  func(i int) int
}{
	{"ones", func(i int) int { return 1 }},
	{"one alone", func(i int) int { return 7 }},
	{"the greatest alone", func(i int) int { return math.MaxInt }},
	{"upwards", func(i int) int { return i + 1 }},
	{"downwards", func(i int) int { return math.MaxInt - i }},
	{"by turns", func(i int) int { return i%2 + 1 }},
	{"the least and the greatest by turns", func(i int) int { return max(i%2*math.MaxInt, 1) }},
	{"each third", func(i int) int { return i%3/2 + 1 }},
	{"each fifth", func(i int) int { return muddle(i % 5) }},
	{"a one, then twos", func(i int) int { return min(i, 1) + 1 }},
	{"twos, then ones, then twos", func(i int) int { return 2 - i/99%2 }},
	{"ever more ones between twos", func(i int) int { return 2 - min(i&(i+1), 1) }},
	{"of two", func(i int) int { return muddle(i)&1 + 1 }},
	{"of four, far from each other", func(i int) int { return muddle(i)&3<<60 + 1 }},
	{"of many", func(i int) int { return muddle(i)&0xff + 1 }},
	{"a muddle", muddle},
}

// muddle is a number from 1 on that looks like none near it.
func muddle(i int) int {
	v := (uint64(i) + 1) * 0x9e3779b97f4a7c15
	v = (v ^ v>>29) * 0xbf58476d1ce4e5b9
	return int((v^v>>32)>>1 | 1)
}

// plain is a row of a kind.
func plain(n int, sym func(i int) int) []int {
	row := make([]int, n)
	for i := range row {
		row[i] = sym(i)
	}
	return row
}

// closed is a row of a kind with the 0 behind it.
func closed(n int, sym func(i int) int) []int { return append(plain(n, sym), 0) }

// allOf gives each row of n symbols from the least to the greatest one.
func allOf(n, least, greatest int, do func(row []int)) {
	kinds, all := greatest-least+1, 1
	for range n {
		all *= kinds
	}
	for which := range all {
		row := make([]int, n)
		for i, left := 0, which; i < n; i, left = i+1, left/kinds {
			row[i] = left%kinds + least
		}
		do(row)
	}
}

// each gives short closed rows of all kinds and lengths, with their names, and all of up to six symbols of three with a 0 behind them.
func each(do func(name string, row []int)) {
	for _, k := range kinds {
		for _, n := range lengths {
			do(k.name+", "+strconv.Itoa(n), closed(n, k.sym))
		}
	}
	for n := range 7 {
		allOf(n, 1, 3, func(row []int) { do("a short row", append(row, 0)) })
	}
}

// plainTurn is a plain sort of the endings; slices.Compare has one that is another's beginning first.
func plainTurn(s []int) []int {
	order := plain(len(s), func(i int) int { return i })
	slices.SortFunc(order, func(a, b int) int { return slices.Compare(s[a:], s[b:]) })
	return turnedBy(s, order)
}

// turnedBy is the symbols ahead of endings in this order.
func turnedBy(s, order []int) []int {
	return plain(len(s), func(p int) int { return s[(order[p]+len(s)-1)%len(s)] })
}

// plainCounts looks each c up in the row's symbols in order.
func plainCounts(l []int, top int) []int {
	sorted := slices.Sorted(slices.Values(l))
	return plain(top+1, func(c int) int {
		n, _ := slices.BinarySearch(sorted, c)
		return n
	})
}

// turned is a Turn that there must be.
func turned(t *testing.T, name string, s []int) []int {
	t.Helper()
	l, e := bwt.Turn(s...)
	if e != api.OK || len(l) != len(s) {
		t.Fatalf("%s: Turn of %d symbols: %d symbols, %v", name, len(s), len(l), e)
	}
	return l
}

// refused tells of anything answered but an error.
func refused(t *testing.T, name string, want api.Errno, l []int, e api.Errno) {
	t.Helper()
	if len(l) != 0 || e != want {
		t.Errorf("%s: %d numbers, %v, want %v", name, len(l), e, want)
	}
}

// answered tells of anything answered but this row.
func answered(t *testing.T, name string, want, l []int, e api.Errno) {
	t.Helper()
	if e != api.OK || !slices.Equal(l, want) {
		t.Errorf("%s: %s, %v, want %s", name, short(l), e, short(want))
	}
}

// short is a row in words, of a long one its beginning.
func short(l []int) string {
	text := strconv.Itoa(len(l)) + " numbers:"
	for _, c := range l[:min(len(l), 20)] {
		text += " " + strconv.Itoa(c)
	}
	return text
}

// told is closed rows with what the document's words make of them.
var told = []struct {
	name      string
	s, turned []int
}{
	{"the chapter's example", []int{2, 1, 3, 1, 3, 1, 0}, []int{1, 3, 3, 2, 0, 1, 1}},
	{"0 alone", []int{0}, []int{0}},
	{"one and 0", []int{1, 0}, []int{1, 0}},
	{"the greatest and 0", []int{math.MaxInt, 0}, []int{math.MaxInt, 0}},
	{"two alike", []int{5, 5, 0}, []int{5, 5, 0}},
	{"two upwards", []int{5, 6, 0}, []int{6, 0, 5}},
	{"two downwards", []int{6, 5, 0}, []int{5, 6, 0}},
	{"all alike", []int{4, 4, 4, 4, 0}, []int{4, 4, 4, 4, 0}},
	{"the greatest again and again", []int{math.MaxInt, math.MaxInt, 0}, []int{math.MaxInt, math.MaxInt, 0}},
	{"the two greatest", []int{math.MaxInt, math.MaxInt - 1, math.MaxInt, 0}, []int{math.MaxInt, math.MaxInt, math.MaxInt - 1, 0}},
	{"the least and the greatest", []int{1, math.MaxInt, 0}, []int{math.MaxInt, 0, 1}},
	{"by turns", []int{1, 2, 1, 2, 0}, []int{2, 2, 0, 1, 1}},
	{"not by bytes", []int{256, 1, 255, 65536, 0}, []int{65536, 256, 1, 0, 255}},
}

// P6.1

func TestTurnTold(t *testing.T) {
	for _, c := range told {
		l, e := bwt.Turn(c.s...)
		answered(t, c.name, c.turned, l, e)
	}
}

func TestTurnOfPlainSort(t *testing.T) {
	each(func(name string, row []int) {
		l, e := bwt.Turn(row...)
		answered(t, name, plainTurn(row), l, e)
	})
}

// Of the whole row the last symbol stands, 0; it stands there once, and the other symbols are the row's.
func TestTurnHasTheRowsSymbols(t *testing.T) {
	each(func(name string, row []int) {
		l := turned(t, name, row)
		if slices.Index(l, 0) < 0 || !slices.Equal(slices.Sorted(slices.Values(l)), slices.Sorted(slices.Values(row))) {
			t.Errorf("%s: Turn has other symbols than the row: %d of %d", name, l, row)
		}
	})
}

// notClosed are rows that are no closed ones.
var notClosed = []struct {
	name string
	s    []int
}{
	{"nil", nil},
	{"no symbol", []int{}},
	{"one, no 0", []int{1}},
	{"no 0", []int{2, 1, 3}},
	{"the greatest, no 0", []int{math.MaxInt}},
	{"0 first", []int{0, 1}},
	{"0 within", []int{1, 0, 2}},
	{"0 first and last", []int{0, 1, 0}},
	{"0 within and last", []int{1, 0, 2, 0}},
	{"two 0", []int{0, 0}},
	{"two 0 at the end", []int{3, 0, 0}},
	{"three 0", []int{0, 0, 0}},
	{"one below 0 alone", []int{-1}},
	{"the least alone", []int{math.MinInt}},
	{"one below 0 first", []int{-1, 2, 0}},
	{"one below 0 within", []int{2, -1, 2, 0}},
	{"one below 0 ahead of 0", []int{2, -1, 0}},
	{"one below 0 last", []int{2, 1, -1}},
	{"one below 0 behind 0", []int{2, 0, -1}},
	{"the least and 0", []int{math.MinInt, 0}},
	{"one below 0 and two 0", []int{0, -1, 0}},
}

func TestTurnOfNoClosedRow(t *testing.T) {
	for _, c := range notClosed {
		l, e := bwt.Turn(c.s...)
		refused(t, c.name, api.ErrArg, l, e)
	}
	l, e := bwt.Turn()
	refused(t, "nothing", api.ErrArg, l, e)
}

// Of all short rows those with one 0, the last, and none below 0 are taken, and no other.
func TestTurnAllShort(t *testing.T) {
	for n := range 7 {
		allOf(n, -1, 2, func(row []int) {
			l, e := bwt.Turn(row...)
			if n > 0 && slices.Min(row) == 0 && slices.Index(row, 0) == n-1 {
				answered(t, "a short row", plainTurn(row), l, e)
			} else {
				refused(t, "a short row that is not closed: "+short(row), api.ErrArg, l, e)
			}
		})
	}
}

// A symbol that may not be is found wherever it stands.
func TestTurnBadSymbolAnywhere(t *testing.T) {
	for _, n := range []int{2, 3, 10, 1000, api.MaxAll} {
		for _, c := range []int{0, -1, -2, -256, math.MinInt32, math.MinInt + 1, math.MinInt} {
			for _, at := range []int{0, n / 2, n - 2} {
				if at == n-1 {
					continue
				}
				row := closed(n-1, muddle)
				row[at] = c
				l, e := bwt.Turn(row...)
				refused(t, strconv.Itoa(c)+" at "+strconv.Itoa(at)+" of "+strconv.Itoa(n), api.ErrArg, l, e)
			}
		}
		for _, c := range []int{-1, math.MinInt, 1, math.MaxInt} {
			row := closed(n-1, muddle)
			row[n-1] = c
			l, e := bwt.Turn(row...)
			refused(t, strconv.Itoa(c)+" last of "+strconv.Itoa(n), api.ErrArg, l, e)
		}
	}
}

func TestTurnOfMany(t *testing.T) {
	for _, k := range kinds {
		for _, n := range []int{api.MaxAll - 1, api.MaxAll} {
			row := closed(n-1, k.sym)
			order, _ := suffix.Array(row...)
			l, e := bwt.Turn(row...)
			answered(t, k.name+", "+strconv.Itoa(n), turnedBy(row, order), l, e)
		}
		for _, n := range []int{api.MaxAll + 1, api.MaxAll + 2, 2 * api.MaxAll} {
			l, e := bwt.Turn(closed(n-1, k.sym)...)
			refused(t, k.name+", "+strconv.Itoa(n), api.ErrLong, l, e)
		}
	}
	row := closed(api.MaxAll-1, muddle)
	l, e := bwt.Turn(row...)
	answered(t, "a muddle of MaxAll, sorted plainly", plainTurn(row), l, e)
}

// tooMany are rows of more than MaxAll symbols that are no closed ones, and Turn of none.
func tooMany() map[string][]int {
	n := api.MaxAll + 1
	first, within, two := closed(n-1, muddle), closed(n-1, muddle), closed(n-1, muddle)
	first[0], within[n/2], two[1] = -1, math.MinInt, 0
	return map[string][]int{
		"noughts": make([]int, n), "no 0": plain(n, muddle), "two 0": two, "one below 0 first": first, "one below 0 within": within,
		"0 first": append([]int{0}, plain(n, muddle)...), "all below 0": plain(2*n, func(i int) int { return -1 }),
	}
}

// Too many come before a row that is not closed.
func TestTurnErrsInOrder(t *testing.T) {
	for what, row := range tooMany() {
		l, e := bwt.Turn(row...)
		refused(t, "too many, "+what, api.ErrLong, l, e)
		if what == "noughts" || what == "no 0" {
			l, e = bwt.Turn(row[:api.MaxAll]...)
			refused(t, "MaxAll, "+what, api.ErrArg, l, e)
		}
	}
}

// P6.2

func TestBackTold(t *testing.T) {
	for _, c := range told {
		s, e := bwt.Back(c.turned...)
		answered(t, c.name, c.s, s, e)
	}
}

func TestBackOfPlainTurn(t *testing.T) {
	each(func(name string, row []int) {
		s, e := bwt.Back(plainTurn(row)...)
		answered(t, name, row, s, e)
	})
}

// key is a row as a map's key.
func key(row []int) string {
	text := ""
	for _, c := range row {
		text += strconv.Itoa(c) + " "
	}
	return text
}

// Of all short rows those that are Turn of some closed row are led back to it, and no other.
func TestBackAllShort(t *testing.T) {
	for n := range 7 {
		rows := map[string][]int{}
		allOf(max(n-1, 0), 1, 3, func(row []int) {
			if n > 0 {
				row = append(row, 0)
				rows[key(plainTurn(row))] = row
			}
		})
		allOf(n, -1, 3, func(l []int) {
			s, e := bwt.Back(l...)
			if want, ok := rows[key(l)]; ok {
				answered(t, "Back of "+short(l), want, s, e)
			} else {
				refused(t, "Back of "+short(l), api.ErrForm, s, e)
			}
		})
	}
}

// noTurn are rows that are Turn of no closed row.
var noTurn = []struct {
	name string
	l    []int
}{
	{"nil", nil},
	{"no symbol", []int{}},
	{"one, no 0", []int{1}},
	{"the greatest, no 0", []int{math.MaxInt}},
	{"no 0", []int{3, 1, 2}},
	{"no 0, a way through all", []int{2, 1}},
	{"two 0", []int{0, 0}},
	{"two 0, a way through all", []int{1, 0, 0}},
	{"two 0 beside others", []int{1, 0, 2, 0}},
	{"one below 0 alone", []int{-1}},
	{"the least alone", []int{math.MinInt}},
	{"one below 0, a way through all", []int{0, -1}},
	{"one below 0 in the place of 0", []int{1, 3, 3, 2, -1, 1, 1}},
	{"one below 0 first", []int{-1, 1, 0}},
	{"one below 0 last", []int{1, 0, -1}},
	{"0 first of two: round at once", []int{0, 1}},
	{"0 first of many: round at once", []int{0, 1, 3, 3, 2, 1, 1}},
	{"round after two of three", []int{1, 0, 1}},
	{"round after two of four", []int{1, 0, 2, 3}},
	{"round after three of four", []int{2, 0, 1, 3}},
	{"the example with two exchanged", []int{1, 3, 3, 0, 2, 1, 1}},
	{"the example with one changed", []int{1, 3, 3, 2, 0, 1, 3}},
	{"the example without its last", []int{1, 3, 3, 2, 0, 1}},
	{"the example with one more", []int{1, 3, 3, 2, 0, 1, 1, 3}},
	{"the example with a 0 more", []int{1, 3, 3, 2, 0, 1, 1, 0}},
	{"the example as it was", []int{2, 1, 3, 1, 3, 1, 0}},
}

func TestBackOfNoTurn(t *testing.T) {
	for _, c := range noTurn {
		s, e := bwt.Back(c.l...)
		refused(t, c.name, api.ErrForm, s, e)
	}
	s, e := bwt.Back()
	refused(t, "nothing", api.ErrForm, s, e)
}

// near gives rows that are a Turn but for little, with their names.
func near(l []int, do func(name string, near []int)) {
	n := len(l)
	for p := range n {
		if p > 5 && p < n-5 && p != n/2 {
			continue
		}
		where := " at " + strconv.Itoa(p)
		for _, q := range []int{0, (p + 1) % n, n - 1} {
			other := slices.Clone(l)
			other[p], other[q] = other[q], other[p]
			do("exchanged with "+strconv.Itoa(q)+where, other)
		}
		for _, c := range []int{math.MinInt, -1, 0, 1, 2, 7, l[0], l[n-1], l[p] - 1, math.MaxInt} {
			other := slices.Clone(l)
			other[p] = c
			do(strconv.Itoa(c)+where, other)
			do(strconv.Itoa(c)+" more"+where, slices.Insert(slices.Clone(l), p, c))
		}
		do("left out"+where, slices.Delete(slices.Clone(l), p, p+1))
	}
	do("as long again", slices.Concat(l, l))
	backwards := slices.Clone(l)
	slices.Reverse(backwards)
	do("backwards", backwards)
}

// holds tells whether what Back answered of l may be so: a closed row of which l is Turn, or ErrForm where it is no Turn.
func holds(l, s []int, e api.Errno) bool {
	if e == api.OK {
		return slices.Index(s, 0) == len(s)-1 && slices.Min(s) == 0 && slices.Equal(plainTurn(s), l)
	}
	return e == api.ErrForm && len(s) == 0 && !isTurn(l)
}

// isTurn goes from symbol to symbol, each time to the place that the last one has among all in order: the 0 has to come last of all.
func isTurn(l []int) bool {
	at := 0
	for i := range l {
		if l[at] <= 0 {
			return l[at] == 0 && i == len(l)-1
		}
		at = placeOf(l, at)
	}
	return false
}

// placeOf is the place that the symbol at this one has among all in order.
func placeOf(l []int, at int) int {
	place := 0
	for p, c := range l {
		if c < l[at] || c == l[at] && p < at {
			place++
		}
	}
	return place
}

func TestBackOfNearlyTurn(t *testing.T) {
	each(func(name string, row []int) {
		if len(row) > 66 {
			return
		}
		near(plainTurn(row), func(what string, l []int) {
			if s, e := bwt.Back(l...); !holds(l, s, e) {
				t.Fatalf("%s, %s: Back of %d: %d, %v", name, what, l, s, e)
			}
		})
	})
}

func TestBackOfMany(t *testing.T) {
	for _, k := range kinds {
		for _, n := range []int{api.MaxAll - 1, api.MaxAll} {
			row := closed(n-1, k.sym)
			order, _ := suffix.Array(row...)
			s, e := bwt.Back(turnedBy(row, order)...)
			answered(t, k.name+", "+strconv.Itoa(n), row, s, e)
		}
		for _, n := range []int{api.MaxAll + 1, 2 * api.MaxAll} {
			l := closed(n-1, func(i int) int { return 3 }) // Turn of itself, if it were not too long
			s, e := bwt.Back(l...)
			refused(t, k.name+", "+strconv.Itoa(n), api.ErrLong, s, e)
			s, e = bwt.Back(closed(n-1, k.sym)...)
			refused(t, k.name+", "+strconv.Itoa(n), api.ErrLong, s, e)
		}
	}
}

// Of MaxAll symbols, a way that is by one symbol too short, a second 0, and one below 0 are found.
func TestBackOfManyThatAreNoTurn(t *testing.T) {
	n := api.MaxAll
	good := closed(n-1, func(i int) int { return 3 })
	s, e := bwt.Back(good...)
	answered(t, "all alike", good, s, e)
	for what, l := range map[string][]int{
		"one too short":   slices.Concat(good[:n-2], []int{0, 3}),
		"round at once":   slices.Concat([]int{0}, good[:n-1]),
		"a second 0":      slices.Concat(good[:n/2], []int{0}, good[n/2+1:]),
		"no 0":            plain(n, muddle),
		"one below 0":     slices.Concat([]int{-1}, good[1:]),
		"the least last":  slices.Concat(good[:n-1], []int{math.MinInt}),
		"noughts":         make([]int, n),
		"all below 0":     plain(n, func(i int) int { return -1 - i }),
		"upwards, from 0": plain(n, func(i int) int { return i }),
	} {
		s, e := bwt.Back(l...)
		refused(t, what, api.ErrForm, s, e)
	}
}

// Too many come before what is Turn of nothing.
func TestBackErrsInOrder(t *testing.T) {
	for what, l := range tooMany() {
		s, e := bwt.Back(l...)
		refused(t, "too many, "+what, api.ErrLong, s, e)
	}
}

// P6.3

func TestCountsTold(t *testing.T) {
	for _, c := range []struct {
		name  string
		l     []int
		width int
		want  []int
	}{
		{"the chapter's example", []int{1, 3, 3, 2, 0, 1, 1}, 2, []int{0, 1, 4, 5, 7}},
		{"the example, a digit less", []int{1, 3, 3, 2, 0, 1, 1}, 1, []int{0, 1, 4}},
		{"the example, no digit", []int{1, 3, 3, 2, 0, 1, 1}, 0, []int{0, 1}},
		{"the example, a digit more", []int{1, 3, 3, 2, 0, 1, 1}, 3, []int{0, 1, 4, 5, 7, 7, 7, 7, 7}},
		{"nil, no digit", nil, 0, []int{0, 0}},
		{"no symbol", []int{}, 1, []int{0, 0, 0}},
		{"0", []int{0}, 1, []int{0, 1, 1}},
		{"1", []int{1}, 1, []int{0, 0, 1}},
		{"1 and no digit", []int{1}, 0, []int{0, 0}},
		{"2^width", []int{2}, 1, []int{0, 0, 0}},
		{"above 2^width", []int{3, 4, math.MaxInt}, 1, []int{0, 0, 0}},
		{"below 2^width", []int{3, 4}, 2, []int{0, 0, 0, 0, 1}},
		{"below 0", []int{-1}, 1, []int{1, 1, 1}},
		{"the least", []int{math.MinInt, math.MinInt + 1}, 0, []int{2, 2}},
		{"below 0, within, and above", []int{5, -1, 0, 1, 2, -7, math.MaxInt, math.MinInt}, 1, []int{3, 4, 5}},
		{"a width below 0", []int{-1, 0, 0, 1}, -1, []int{1, 3}},
		{"the least width", []int{-1, 0, 0, 1}, math.MinInt, []int{1, 3}},
	} {
		answered(t, c.name, c.want, bwt.Counts(c.l, c.width), api.OK)
	}
}

// widths are the widths that the document names, with those about them, and what each counts as.
var widths = []struct{ width, as int }{
	{math.MinInt, 0}, {math.MinInt32, 0}, {-16, 0}, {-1, 0}, {0, 0}, {1, 1}, {2, 2}, {3, 3}, {8, 8}, {15, 15},
	{16, 16}, {17, 16}, {32, 16}, {63, 16}, {64, 16}, {65, 16}, {1 << 32, 16}, {math.MaxInt, 16},
}

func TestCountsOfEachWidth(t *testing.T) {
	rows := map[string][]int{"nil": nil, "no symbol": {}}
	edges := []int{math.MinInt, -65537, -2, -1, 0, 1, 2, math.MaxInt - 1, math.MaxInt}
	for _, w := range widths {
		edges = append(edges, 1<<w.as-1, 1<<w.as, 1<<w.as+1)
	}
	rows["edges"] = edges
	rows["edges again and again"] = plain(500, func(i int) int { return edges[muddle(i)%len(edges)] })
	for i, k := range kinds {
		rows[k.name] = plain(i*9, func(i int) int { return k.sym(i) - 3 })
	}
	for name, l := range rows {
		for _, w := range widths {
			got := bwt.Counts(l, w.width)
			if len(got) != 1<<w.as+1 {
				t.Fatalf("%s: %d numbers of width %d", name, len(got), w.width)
			}
			answered(t, name+", width "+strconv.Itoa(w.width), plainCounts(l, 1<<w.as), got, api.OK)
		}
	}
}

// For all short rows each c is counted by going through the row.
func TestCountsAllShort(t *testing.T) {
	for n := range 6 {
		allOf(n, -1, 5, func(l []int) {
			for width := range 3 {
				want := make([]int, 1<<width+1)
				for c := range want {
					for _, s := range l {
						if s < c {
							want[c]++
						}
					}
				}
				answered(t, short(l), want, bwt.Counts(l, width), api.OK)
			}
		})
	}
}

// The chapter names no greatest row for Counts: all its symbols are counted.
func TestCountsOfMany(t *testing.T) {
	for _, n := range []int{api.MaxAll - 1, api.MaxAll, api.MaxAll + 1, 3 * api.MaxAll} {
		l := plain(n, func(i int) int { return muddle(i)%(1<<17) - 1<<15 })
		for _, width := range []int{0, 1, 15, 16, 17} {
			answered(t, strconv.Itoa(n), plainCounts(l, 1<<min(width, 16)), bwt.Counts(l, width), api.OK)
		}
	}
}

// P6.4

func TestBackOfTurn(t *testing.T) {
	each(func(name string, row []int) {
		s, e := bwt.Back(turned(t, name, row)...)
		answered(t, name, row, s, e)
	})
	for _, k := range kinds {
		for _, n := range []int{1000, 4095, 4096, 30000, api.MaxAll - 1, api.MaxAll} {
			row := closed(n-1, k.sym)
			s, e := bwt.Back(turned(t, k.name, row)...)
			answered(t, k.name+", "+strconv.Itoa(n), row, s, e)
		}
	}
}

// calls is the three, each with what is good for it made of a row.
var calls = []struct {
	name string
	in   func(row []int) []int
	call func(in []int) ([]int, api.Errno)
}{
	{"Turn", slices.Clone[[]int], func(in []int) ([]int, api.Errno) { return bwt.Turn(in...) }},
	{"Back", plainTurn, func(in []int) ([]int, api.Errno) { return bwt.Back(in...) }},
	{"Counts", slices.Clone[[]int], func(in []int) ([]int, api.Errno) { return bwt.Counts(in, 3), api.OK }},
}

// roomy is a list with spare room that is told apart from it.
func roomy(l []int) []int {
	return append(slices.Clone(l), -90, -91, -92)[: len(l) : len(l)+3]
}

// whole is a list and its spare room.
func whole(l []int) []int { return l[:cap(l)] }

func TestHandedIn(t *testing.T) {
	each(func(name string, row []int) {
		for _, c := range calls {
			in := roomy(c.in(row))
			was := slices.Clone(whole(in))
			l, e := c.call(in)
			kept := slices.Clone(l)
			if !slices.Equal(whole(in), was) {
				t.Fatalf("%s: %s changed %d to %d", name, c.name, was, whole(in))
			}
			for i := range whole(in) {
				whole(in)[i] = -93
			}
			answered(t, name+", "+c.name+" kept what was handed in", kept, l, e)
		}
	})
}

func TestAnsweredIsNew(t *testing.T) {
	each(func(name string, row []int) {
		for _, c := range calls {
			in := roomy(c.in(row))
			want, e := c.call(in)
			want = slices.Clone(want)
			one, _ := c.call(in)
			other, _ := c.call(in)
			for i := range whole(one) {
				whole(one)[i] = -94
			}
			answered(t, name+", "+c.name+" shares an answer with another", want, other, e)
			if slices.Contains(whole(in), -94) {
				t.Fatalf("%s: %s answers what was handed in", name, c.name)
			}
			l, e := c.call(in)
			answered(t, name+", "+c.name+" once more", want, l, e)
		}
	})
}

// A refused row is no more changed than one that is taken.
func TestRefusedIsUnchanged(t *testing.T) {
	var rows [][]int
	for _, c := range notClosed {
		rows = append(rows, c.s)
	}
	for _, c := range noTurn {
		rows = append(rows, c.l)
	}
	for _, row := range tooMany() {
		rows = append(rows, row)
	}
	for _, row := range rows {
		for _, c := range calls {
			in := roomy(row)
			c.call(in)
			if !slices.Equal(whole(in), whole(roomy(row))) {
				t.Errorf("%s changed %s", c.name, short(row))
			}
		}
	}
}

// Rows that repeat themselves are as quick as others, and so are those that are refused.
func TestQuickEnough(t *testing.T) {
	for _, k := range kinds {
		row := closed(api.MaxAll-1, k.sym)
		var l []int
		quick(t, k.name+", Turn", func() { l, _ = bwt.Turn(row...) })
		quick(t, k.name+", Back", func() { bwt.Back(l...) })
		quick(t, k.name+", Back of no Turn", func() { bwt.Back(row...) })
		quick(t, k.name+", Counts", func() { bwt.Counts(l, 16) })
	}
}

// quick tells of what takes long each time; the least of several times is its own, what others on the machine do is not in it.
func quick(t *testing.T, name string, do func()) {
	t.Helper()
	least := time.Hour
	for range 5 {
		begin := time.Now()
		do()
		if least = min(least, time.Since(begin)); least < 300*time.Millisecond {
			return
		}
	}
	t.Errorf("%s of MaxAll symbols takes %v", name, least)
}
