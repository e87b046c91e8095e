package wavelet_test

import (
	"math"
	"slices"
	"strconv"
	"testing"

	"haystack/api"
	"haystack/wavelet"
)

const most = 1 << 17

// lengths are those of short rows, of which some end at the end of a word of 64 bits.
var lengths = []int{0, 1, 2, 3, 5, 8, 63, 64, 65, 130}

// nowhere is places, counts and symbols that no row has.
var nowhere = []int{math.MinInt, math.MinInt + 1, -most, -65537, -65536, -65, -64, -2, -1, 2 * most, math.MaxInt - 1, math.MaxInt}

// kinds are rules by which the symbols of a row are made; each is cut to its width.
var kinds = []struct {
	name string
	sym  func(i int) int
}{
	{"noughts", func(i int) int { return 0 }},
	{"the greatest", func(i int) int { return -1 }},
	{"one alone", func(i int) int { return 0x5a5a }},
	{"upwards", func(i int) int { return i }},
	{"downwards", func(i int) int { return -1 - i }},
	{"by turns", func(i int) int { return -(i % 2) }},
	{"some of the highest digit", func(i int) int { return muddle(i) << 15 >> (i % 3) }},
	{"a few", func(i int) int { return muddle(muddle(i) % 3) }},
	{"a muddle", muddle},
}

// muddle is a number that looks like none near it.
func muddle(i int) int {
	v := (uint64(i) + 1) * 0x9e3779b97f4a7c15
	v = (v ^ v>>29) * 0xbf58476d1ce4e5b9
	return int(v >> 8)
}

// plain is a row of a kind.
func plain(width, n int, sym func(i int) int) []int {
	row := make([]int, n)
	for i := range row {
		row[i] = sym(i) & (1<<width - 1)
	}
	return row
}

// each gives rows of all widths, kinds and lengths, with their names.
func each(do func(name string, width int, row []int)) {
	for width := 1; width <= 16; width++ {
		for _, k := range kinds {
			for _, n := range lengths {
				do(k.name+" of "+strconv.Itoa(width)+" digits, "+strconv.Itoa(n), width, plain(width, n, k.sym))
			}
		}
	}
}

// built is a row that there must be.
func built(t *testing.T, width int, row []int) *wavelet.Tree {
	t.Helper()
	w, e := wavelet.Build(width, row...)
	if e != api.OK || w == nil {
		t.Fatalf("Build(%d) of %d symbols: %v; nil: %t", width, len(row), e, w == nil)
	}
	return w
}

// first is the first i symbols of a plain row, i brought within it.
func first(row []int, i int) []int { return row[:min(max(i, 0), len(row))] }

// rank goes through a plain row.
func rank(row []int, c, i int) int {
	n := 0
	for _, x := range first(row, i) {
		if x == c {
			n++
		}
	}
	return n
}

// sel goes through a plain row.
func sel(row []int, c, k int) int {
	for i, x := range row {
		if x == c {
			if k == 0 {
				return i
			}
			k--
		}
	}
	return -1
}

// below goes through a plain row.
func below(row []int, c, from, to int) int {
	n := 0
	for i, x := range first(row, to) {
		if i >= from && x < c {
			n++
		}
	}
	return n
}

// asked is symbols worth asking of: those there, their neighbours, the edges of the width, and what is no symbol.
func asked(width int, row []int) []int {
	l := []int{0, 1, 1<<width - 2, 1<<width - 1, 1 << width, 1<<width + 1, 1 << (width - 1), 1<<16 - 1, 1 << 16, 1 << 32}
	for i, c := range row {
		l = append(l, c)
		if i < 4 {
			l = append(l, c-1, c+1, c+1<<width, c-1<<width) // the last two have the digits of c
		}
	}
	l = append(l, nowhere...)
	slices.Sort(l)
	return slices.Compact(l)
}

// places is those of a short row and what lies about it.
func places(n int) []int {
	l := append([]int{n + 1, n + 2, n + 63, n + 64, n + 65}, nowhere...)
	step := max(n/24, 1)
	for i := 0; i <= n; i += step {
		l = append(l, i)
	}
	return append(l, n-1, n)
}

// same holds what a Tree has against a plain row.
func same(t *testing.T, name string, w *wavelet.Tree, width int, row []int) {
	t.Helper()
	if w.Width() != width || w.Len() != len(row) {
		t.Fatalf("%s: Width %d, Len %d, want %d, %d", name, w.Width(), w.Len(), width, len(row))
	}
	if got := w.All(); !slices.Equal(got, row) {
		t.Fatalf("%s: All %d, want %d", name, got, row)
	}
	for i, c := range row {
		if got := w.Get(i); got != c {
			t.Fatalf("%s: Get(%d) %d, want %d", name, i, got, c)
		}
	}
	for _, i := range places(len(row)) {
		if got := w.Get(i); got != -1 && (i < 0 || i >= len(row)) {
			t.Fatalf("%s: Get(%d) %d of a symbol that there is not", name, i, got)
		}
	}
}

// counts holds all that a Tree counts against a plain row.
func counts(t *testing.T, name string, w *wavelet.Tree, width int, row []int) {
	t.Helper()
	for _, c := range asked(width, row) {
		ranks(t, name, w, c, row)
		selects(t, name, w, c, row)
		belows(t, name, w, c, row)
	}
}

// ranks holds the Ranks of a symbol against a plain row.
func ranks(t *testing.T, name string, w *wavelet.Tree, c int, row []int) {
	t.Helper()
	for _, i := range places(len(row)) {
		if got, want := w.Rank(c, i), rank(row, c, i); got != want {
			t.Fatalf("%s: Rank(%d, %d) %d, want %d", name, c, i, got, want)
		}
	}
}

// selects holds the Selects of a symbol against a plain row.
func selects(t *testing.T, name string, w *wavelet.Tree, c int, row []int) {
	t.Helper()
	there := rank(row, c, len(row))
	for _, k := range append([]int{there - 2, there - 1, there, there + 1}, places(there)...) {
		if got, want := w.Select(c, k), sel(row, c, k); got != want {
			t.Fatalf("%s: Select(%d, %d) %d, want %d", name, c, k, got, want)
		}
	}
}

// belows holds the Belows of a symbol against a plain row.
func belows(t *testing.T, name string, w *wavelet.Tree, c int, row []int) {
	t.Helper()
	n := len(row)
	froms := []int{math.MinInt, -1, 0, 1, n / 3, n / 2, n - 1, n, n + 1, math.MaxInt}
	for _, from := range froms {
		for _, to := range append(froms, from-1, from+1) {
			if got, want := w.Below(c, from, to), below(row, c, from, to); got != want {
				t.Fatalf("%s: Below(%d, %d, %d) %d, want %d", name, c, from, to, got, want)
			}
		}
	}
}

// P4.1

func TestBuildWidths(t *testing.T) {
	for width := -3; width <= 40; width++ {
		for _, row := range [][]int{nil, {}, {0}, {1, 0, 1}} {
			if width >= 1 && width <= 16 {
				same(t, "Build("+strconv.Itoa(width)+")", built(t, width, row), width, row)
			} else {
				refused(t, width, row, api.ErrArg)
			}
		}
	}
	for _, width := range []int{math.MinInt, math.MinInt + 1, -64, -16, 63, 64, 65, 128, math.MaxInt} {
		refused(t, width, nil, api.ErrArg)
		refused(t, width, []int{0}, api.ErrArg)
	}
}

// refused tells of a Build that answers anything but an error.
func refused(t *testing.T, width int, row []int, want api.Errno) {
	t.Helper()
	if w, e := wavelet.Build(width, row...); w != nil || e != want {
		t.Errorf("Build(%d) of %d symbols: %v, want %v; nil: %t", width, len(row), e, want, w == nil)
	}
}

func TestBuildNoSymbol(t *testing.T) {
	for width := 1; width <= 16; width++ {
		for what, row := range map[string][]int{"no symbol": nil, "an empty list": {}} {
			w := built(t, width, row)
			same(t, what, w, width, nil)
			counts(t, what, w, width, nil)
		}
	}
}

// Each symbol of a width is taken, none beside them, wherever it stands.
func TestBuildSymbols(t *testing.T) {
	for width := 1; width <= 16; width++ {
		all := plain(width, 1<<width, func(i int) int { return i })
		same(t, "all symbols", built(t, width, all), width, all)
		for _, at := range []int{0, len(all) / 2, len(all) - 1} {
			for _, c := range []int{-1, -2, 1 << width, 1<<width + 1, -1 << width, 1 << 16, 1 << 17, 1 << 32, math.MinInt, math.MaxInt} {
				row := slices.Clone(all)
				row[at] = c
				refused(t, width, row, api.ErrArg)
			}
		}
		refused(t, width, []int{1 << width}, api.ErrArg)
		refused(t, width, []int{-1}, api.ErrArg)
	}
}

func TestBuildManySymbols(t *testing.T) {
	for _, width := range []int{1, 2, 9, 16} {
		for _, n := range []int{most - 1, most} {
			row := plain(width, n, muddle)
			same(t, "Build of "+strconv.Itoa(n), built(t, width, row), width, row)
		}
		for _, n := range []int{most + 1, most + 64, 2 * most} {
			refused(t, width, make([]int, n), api.ErrLong)
		}
	}
}

// Of several errors that of the width comes first, then that of too many, then that of a symbol.
func TestBuildErrsInOrder(t *testing.T) {
	for _, c := range []int{-1, 0, 2, 1 << 16, math.MaxInt} {
		many := make([]int, most+1)
		many[0], many[most] = c, c
		for _, width := range []int{math.MinInt, -1, 0, 17, math.MaxInt} {
			refused(t, width, []int{c}, api.ErrArg)
			refused(t, width, many, api.ErrArg)
		}
		refused(t, 1, many, api.ErrLong)
		if c != 0 {
			refused(t, 1, many[:most], api.ErrArg)
			refused(t, 1, many[:1], api.ErrArg)
		}
	}
}

func TestGetAndAll(t *testing.T) {
	each(func(name string, width int, row []int) {
		same(t, name, built(t, width, row), width, row)
	})
}

// P4.2

func TestExample(t *testing.T) {
	w := built(t, 3, []int{2, 5, 2, 7})
	if w.Rank(2, 3) != 2 || w.Select(2, 1) != 2 || w.Below(5, 0, 4) != 2 {
		t.Error(w.Rank(2, 3), w.Select(2, 1), w.Below(5, 0, 4))
	}
}

func TestCounts(t *testing.T) {
	each(func(name string, width int, row []int) {
		counts(t, name, built(t, width, row), width, row)
	})
}

// Each place and each symbol of all short rows of two digits.
func TestAllShortRows(t *testing.T) {
	for n := range 6 {
		for all := range 1 << (2 * n) {
			row := plain(2, n, func(i int) int { return all >> (2 * i) })
			w := built(t, 2, row)
			same(t, "a short row", w, 2, row)
			for c := -1; c <= 5; c++ {
				ranks(t, "a short row", w, c, row)
				selects(t, "a short row", w, c, row)
				for from := -1; from <= n+1; from++ {
					for to := -1; to <= n+1; to++ {
						if got, want := w.Below(c, from, to), below(row, c, from, to); got != want {
							t.Fatalf("%d: Below(%d, %d, %d) %d, want %d", row, c, from, to, got, want)
						}
					}
				}
			}
		}
	}
}

func TestOneSymbolAlone(t *testing.T) {
	for width := 1; width <= 16; width++ {
		for _, c := range []int{0, 1, 1 << (width - 1), 1<<width - 1} {
			for _, n := range []int{1, 64, 100} {
				w := built(t, width, slices.Repeat([]int{c}, n))
				for i := range n + 1 {
					if got := w.Rank(c, i); got != i {
						t.Fatalf("%d alone: Rank(%d, %d) %d", c, c, i, got)
					}
					if got := w.Below(c, 0, i); got != 0 {
						t.Fatalf("%d alone: Below(%d, 0, %d) %d", c, c, i, got)
					}
					if got := w.Below(c+1, i, n); got != n-i {
						t.Fatalf("%d alone: Below(%d, %d, %d) %d", c, c+1, i, n, got)
					}
					want := i
					if i == n {
						want = -1
					}
					if got := w.Select(c, i); got != want {
						t.Fatalf("%d alone: Select(%d, %d) %d", c, c, i, got)
					}
				}
			}
		}
	}
}

// What is no symbol has the digits of one that is there, cut to the width: it is not taken for that one.
func TestNoSymbol(t *testing.T) {
	for width := 1; width <= 16; width++ {
		row := plain(width, 200, muddle)
		w := built(t, width, row)
		for _, c := range row[:20] {
			for _, more := range []int{1 << width, 2 << width, 1 << 16, 1 << 40, -1 << width, math.MinInt} {
				c := c + more
				if w.Rank(c, len(row)) != 0 || w.Select(c, 0) != -1 || w.Select(c, -1) != -1 {
					t.Fatal(width, c, w.Rank(c, len(row)), w.Select(c, 0))
				}
				want := 0
				if c > 0 {
					want = len(row)
				}
				if got := w.Below(c, 0, len(row)); got != want {
					t.Fatal(width, c, got)
				}
			}
		}
	}
}

func TestGreatestRow(t *testing.T) {
	for _, width := range []int{1, 8, 16} {
		row := plain(width, most, func(i int) int { return muddle(i % 1000) })
		w := built(t, width, row)
		n := make(map[int]int)
		for i, c := range row {
			if got := w.Rank(c, i); got != n[c] {
				t.Fatalf("%d digits: Rank(%d, %d) %d, want %d", width, c, i, got, n[c])
			}
			if got := w.Select(c, n[c]); got != i {
				t.Fatalf("%d digits: Select(%d, %d) %d, want %d", width, c, n[c], got, i)
			}
			n[c]++
		}
		for c, all := range n {
			if w.Rank(c, most) != all || w.Rank(c, math.MaxInt) != all || w.Select(c, all) != -1 {
				t.Fatal(width, c, w.Rank(c, most), w.Select(c, all))
			}
		}
		for c := 0; c <= 1<<width; c += max(1<<width/16, 1) {
			for _, from := range []int{0, 1, 777, most / 2, most - 1} {
				if got, want := w.Below(c, from, most), below(row, c, from, most); got != want {
					t.Fatal(width, c, from, got, want)
				}
			}
		}
	}
}

// P4.3

func TestSelectOfRank(t *testing.T) {
	each(func(name string, width int, row []int) {
		w := built(t, width, row)
		for i, c := range row {
			if got := w.Select(c, w.Rank(c, i)); got != i {
				t.Fatalf("%s: Select of Rank of %d at %d: %d", name, c, i, got)
			}
		}
	})
}

func TestHandedIn(t *testing.T) {
	for width := 3; width <= 16; width++ {
		room := []int{2, 5, 2, 7, 90, -91} // the last two are spare room
		w := built(t, width, room[:4])
		if !slices.Equal(room, []int{2, 5, 2, 7, 90, -91}) {
			t.Error("symbols changed", room)
		}
		for i := range room {
			room[i] = 1
		}
		same(t, "symbols kept", w, width, []int{2, 5, 2, 7})
		counts(t, "symbols kept", w, width, []int{2, 5, 2, 7})
	}
	none := make([]int, 0, 4)
	l := built(t, 3, none).All()
	if l = append(l, 9, 9); none[:4][0] != 0 || none[:4][1] != 0 {
		t.Error("the room of no symbols kept", none[:4], l)
	}
}

func TestAnsweredIsNew(t *testing.T) {
	each(func(name string, width int, row []int) {
		w := built(t, width, row)
		one, other := w.All(), w.All()
		for i := range one {
			one[i] = -7
		}
		spare := one[len(one):cap(one)]
		for i := range spare {
			spare[i] = -8
		}
		if !slices.Equal(other, row) {
			t.Fatalf("%s: one answer shares with another", name)
		}
		same(t, name+", All changed", w, width, row)
	})
}

func TestNothingAskedChanges(t *testing.T) {
	each(func(name string, width int, row []int) {
		w := built(t, width, row)
		counts(t, name, w, width, row)
		w.Get(-1)
		w.Get(len(row))
		w.All()
		same(t, name+", asked", w, width, row)
		if len(row) < 10 {
			counts(t, name+", asked again", w, width, row)
		}
	})
}

func TestNilTree(t *testing.T) {
	var w *wavelet.Tree
	nothing(t, w)
}

func TestZeroTree(t *testing.T) { nothing(t, new(wavelet.Tree)) }

// nothing tells of a Tree that has something.
func nothing(t *testing.T, w *wavelet.Tree) {
	t.Helper()
	if w.Len() != 0 || w.Width() != 0 || len(w.All()) != 0 {
		t.Error(w.Len(), w.Width(), w.All())
	}
	some := append([]int{0, 1, 2, 63, 64, 65536}, nowhere...)
	for _, c := range some {
		if got := w.Get(c); got != -1 {
			t.Errorf("Get(%d) %d", c, got)
		}
		for _, i := range some {
			if got := w.Rank(c, i); got != 0 {
				t.Errorf("Rank(%d, %d) %d", c, i, got)
			}
			if got := w.Select(c, i); got != -1 {
				t.Errorf("Select(%d, %d) %d", c, i, got)
			}
			for _, from := range some {
				if got := w.Below(c, from, i); got != 0 {
					t.Errorf("Below(%d, %d, %d) %d", c, from, i, got)
				}
			}
		}
	}
}
