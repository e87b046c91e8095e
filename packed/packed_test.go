package packed_test

import (
	"math"
	"slices"
	"strconv"
	"testing"

	"haystack/api"
	"haystack/packed"
)

const most = 1 << 20

// lengths are those of short rows, of which many end within a word and some at its end.
var lengths = []int{0, 1, 2, 3, 5, 7, 8, 9, 16, 31, 32, 33, 63, 64, 65, 130}

// nowhere is places that no row has.
var nowhere = []int{math.MinInt, math.MinInt + 1, -most, -65, -64, -63, -2, -1, most, most + 1, math.MaxInt - 1, math.MaxInt}

// greatest is the greatest number of so many digits.
func greatest(width int) uint64 {
	if width == 64 {
		return math.MaxUint64
	}
	return 1<<width - 1
}

// kinds are rules by which the numbers of a row are made; each is cut to its width.
var kinds = []struct {
	name string
	num  func(i int) uint64
}{
	{"noughts", func(i int) uint64 { return 0 }},
	{"the greatest", func(i int) uint64 { return math.MaxUint64 }},
	{"ones", func(i int) uint64 { return 1 }},
	{"places", func(i int) uint64 { return uint64(i) }},
	{"every other", func(i int) uint64 { return -uint64(i % 2) }},
	{"digits by turns", func(i int) uint64 { return 0x5555555555555555 << (i % 2) }},
	{"a muddle", func(i int) uint64 { return muddle(uint64(i)) }},
}

// muddle is a number that looks like none near it.
func muddle(i uint64) uint64 {
	i = (i + 1) * 0x9e3779b97f4a7c15
	i = (i ^ i>>29) * 0xbf58476d1ce4e5b9
	return i ^ i>>32
}

// plain is a row of a kind.
func plain(width, n int, num func(i int) uint64) []uint64 {
	row := make([]uint64, n)
	for i := range row {
		row[i] = num(i) & greatest(width)
	}
	return row
}

// each gives rows of all widths, kinds and lengths, with their names.
func each(do func(name string, width int, row []uint64)) {
	for width := 1; width <= 64; width++ {
		for _, k := range kinds {
			for _, n := range lengths {
				do(k.name+" of "+strconv.Itoa(width)+" digits, "+strconv.Itoa(n), width, plain(width, n, k.num))
			}
		}
	}
}

// digits is the words of a row, laid digit by digit.
func digits(width int, row []uint64) []uint64 {
	words := make([]uint64, 0, len(row)*width/64+1)
	at := 0
	for _, v := range row {
		for d := range width {
			if at%64 == 0 {
				words = append(words, 0)
			}
			words[at/64] |= v >> d & 1 << (at % 64)
			at++
		}
	}
	return words
}

// same holds all that an Array tells against a plain row.
func same(t *testing.T, name string, a *packed.Array, width int, row []uint64) {
	t.Helper()
	if a.Width() != width || a.Len() != len(row) {
		t.Fatalf("%s: Width %d, Len %d, want %d, %d", name, a.Width(), a.Len(), width, len(row))
	}
	for i, v := range row {
		if got := a.Get(i); got != v {
			t.Fatalf("%s: Get(%d) %x, want %x", name, i, got, v)
		}
	}
	for _, i := range append(nowhere, len(row), len(row)+1, len(row)+63, len(row)+64) {
		if got := a.Get(i); got != 0 && (i < 0 || i >= len(row)) {
			t.Fatalf("%s: Get(%d) %x of a number that there is not", name, i, got)
		}
	}
	if got, want := a.Words(), digits(width, row); !slices.Equal(got, want) {
		t.Fatalf("%s: Words %x, want %x", name, got, want)
	}
}

// made is a row of noughts that there must be.
func made(t *testing.T, width, n int) *packed.Array {
	t.Helper()
	a, e := packed.New(width, n)
	if e != api.OK || a == nil {
		t.Fatalf("New(%d, %d): %v", width, n, e)
	}
	return a
}

// filled is a row of a width that was set number by number.
func filled(t *testing.T, width int, row []uint64) *packed.Array {
	t.Helper()
	a := made(t, width, len(row))
	for i, v := range row {
		if e := a.Set(i, v); e != api.OK {
			t.Fatalf("Set(%d, %x) of %d digits: %v", i, v, width, e)
		}
	}
	return a
}

// shapes are widths and lengths of rows, with the error of those that may not be.
var shapes = []struct {
	width, n int
	want     api.Errno
}{
	{1, 0, api.OK}, {1, 1, api.OK}, {1, most, api.OK}, {2, 5, api.OK}, {63, 3, api.OK}, {63, most, api.OK}, {64, 0, api.OK}, {64, 3, api.OK}, {64, most, api.OK},
	{0, 0, api.ErrArg}, {0, 1, api.ErrArg}, {-1, 1, api.ErrArg}, {-64, 1, api.ErrArg}, {65, 1, api.ErrArg}, {128, 1, api.ErrArg},
	{math.MinInt, 1, api.ErrArg}, {math.MaxInt, 1, api.ErrArg},
	{1, -1, api.ErrArg}, {64, -1, api.ErrArg}, {7, -most, api.ErrArg}, {7, math.MinInt, api.ErrArg},
	{1, most + 1, api.ErrLong}, {63, most + 1, api.ErrLong}, {64, most + 1, api.ErrLong}, {64, 2 * most, api.ErrLong}, {1, math.MaxInt, api.ErrLong}, {64, math.MaxInt, api.ErrLong},

	// several at once
	{0, -1, api.ErrArg}, {65, -1, api.ErrArg},
	{0, most + 1, api.ErrArg}, {-1, most + 1, api.ErrArg}, {65, most + 1, api.ErrArg}, {65, math.MaxInt, api.ErrArg}, {math.MinInt, math.MaxInt, api.ErrArg},
}

// P3.1

func TestNew(t *testing.T) {
	for _, c := range shapes {
		name := "New(" + strconv.Itoa(c.width) + ", " + strconv.Itoa(c.n) + ")"
		a, e := packed.New(c.width, c.n)
		if e != c.want || (a == nil) != (c.want != api.OK) {
			t.Fatalf("%s: %v, want %v; nil: %t", name, e, c.want, a == nil)
		}
		if e == api.OK {
			same(t, name, a, c.width, make([]uint64, c.n))
		}
	}
}

func TestNewOfAllWidths(t *testing.T) {
	for width := -3; width <= 70; width++ {
		a, e := packed.New(width, 5)
		if width < 1 || width > 64 {
			if a != nil || e != api.ErrArg {
				t.Error(width, e)
			}
			continue
		}
		if e != api.OK {
			t.Fatal(width, e)
		}
		same(t, "New", a, width, make([]uint64, 5))
	}
}

func TestPackOfLittle(t *testing.T) {
	same(t, "no number", packed.Pack(), 1, nil)
	same(t, "a nil list", packed.Pack(nil...), 1, nil)
	same(t, "an empty list", packed.Pack([]uint64{}...), 1, nil)
	same(t, "a nought", packed.Pack(0), 1, []uint64{0})
	same(t, "noughts", packed.Pack(0, 0, 0), 1, []uint64{0, 0, 0})
	same(t, "a one", packed.Pack(1), 1, []uint64{1})
	same(t, "a two", packed.Pack(2), 2, []uint64{2})
	same(t, "a nought and a one", packed.Pack(0, 1), 1, []uint64{0, 1})
	same(t, "the greatest", packed.Pack(math.MaxUint64), 64, []uint64{math.MaxUint64})
	same(t, "the greatest among noughts", packed.Pack(0, math.MaxUint64, 0), 64, []uint64{0, math.MaxUint64, 0})
}

// The widest number is the first, in the middle, the last; the least and the greatest of its width.
func TestPackWidths(t *testing.T) {
	for width := 1; width <= 64; width++ {
		for _, top := range []uint64{1 << (width - 1), greatest(width)} {
			small := greatest(width) >> 1
			for name, row := range map[string][]uint64{
				"alone":         {top},
				"first":         {top, 0, small, 0},
				"in the middle": {0, small, top, small, 0},
				"last":          {small, small, 0, top},
				"all":           {top, top, top, top, top, top, top},
				"twice":         {top, 0, top},
			} {
				same(t, "Pack, "+strconv.Itoa(width)+" digits, "+name, packed.Pack(row...), width, row)
			}
		}
	}
}

// The least width is the one of all digits that any number has, not of their sum or of how many there are.
func TestPackOfManySmall(t *testing.T) {
	row := plain(2, 1000, func(i int) uint64 { return uint64(i) })
	same(t, "two digits", packed.Pack(row...), 2, row)
}

func TestPackTooMany(t *testing.T) {
	for _, n := range []int{most - 1, most, most + 1, most + 64, most + 1000} {
		row := plain(13, n, func(i int) uint64 { return muddle(uint64(i)) })
		row[0], row[min(n, most)-1] = 1<<12, 1<<12+1
		for i := most; i < n; i++ {
			row[i] = math.MaxUint64 // what is passed over makes no number wider
		}
		same(t, "Pack of "+strconv.Itoa(n), packed.Pack(row...), 13, row[:min(n, most)])
	}
}

// P3.2

func TestExample(t *testing.T) {
	a := packed.Pack(5, 1, 7)
	if a.Width() != 3 || !slices.Equal(a.Words(), []uint64{0x1cd}) {
		t.Errorf("%d %x", a.Width(), a.Words())
	}
}

// Each number of a row is of every kind once, over one of another kind.
func TestSet(t *testing.T) {
	each(func(name string, width int, row []uint64) {
		a := filled(t, width, row)
		same(t, name, a, width, row)
		now := slices.Clone(row)
		for i := len(row) - 1; i >= 0; i-- {
			now[i] = ^now[i] & greatest(width)
			if e := a.Set(i, now[i]); e != api.OK {
				t.Fatal(name, i, e)
			}
		}
		same(t, name+", turned", a, width, now)
	})
}

// One number at a time is set to nought among the greatest, and to the greatest among noughts.
func TestSetLeavesTheOthers(t *testing.T) {
	const n = 70
	for width := 1; width <= 64; width++ {
		for _, back := range []uint64{0, greatest(width)} {
			row := plain(width, n, func(i int) uint64 { return back })
			a := filled(t, width, row)
			for i := range row {
				row[i] = ^back & greatest(width)
				if e := a.Set(i, row[i]); e != api.OK {
					t.Fatal(width, i, e)
				}
				same(t, "Set, "+strconv.Itoa(width)+" digits", a, width, row)
				row[i] = back
				if e := a.Set(i, back); e != api.OK {
					t.Fatal(width, i, e)
				}
			}
			same(t, "set back, "+strconv.Itoa(width)+" digits", a, width, row)
		}
	}
}

func TestSetErrs(t *testing.T) {
	each(func(name string, width int, row []uint64) {
		a := filled(t, width, row)
		for _, i := range append(nowhere, len(row), len(row)+1, len(row)+63, len(row)+64) {
			for _, v := range []uint64{0, 1, greatest(width), math.MaxUint64} {
				if e := a.Set(i, v); e != api.ErrArg {
					t.Fatalf("%s: Set(%d, %x) %v", name, i, v, e)
				}
			}
		}
		if width < 64 {
			for i := range row {
				for _, v := range []uint64{1 << width, 1<<width + 1, greatest(width + 1), 1 << 63, math.MaxUint64, math.MaxUint64 << width} {
					if e := a.Set(i, v); e != api.ErrArg {
						t.Fatalf("%s: Set(%d, %x) %v", name, i, v, e)
					}
				}
			}
		}
		same(t, name+", behind Sets that err", a, width, row)
	})
}

func TestWordsNeeded(t *testing.T) {
	for _, c := range []struct{ width, n, want int }{
		{1, 0, 0}, {64, 0, 0}, {33, 0, 0},
		{1, 1, 1}, {1, 63, 1}, {1, 64, 1}, {1, 65, 2}, {1, 128, 2}, {1, 129, 3},
		{2, 32, 1}, {2, 33, 2}, {16, 4, 1}, {16, 5, 2}, {32, 2, 1}, {32, 3, 2}, {64, 1, 1}, {64, 2, 2},
		{3, 21, 1}, {3, 22, 2}, {3, 64, 3}, {3, 65, 4}, {7, 9, 1}, {7, 10, 2}, {7, 64, 7},
		{33, 1, 1}, {33, 2, 2}, {63, 1, 1}, {63, 2, 2}, {63, 64, 63}, {63, 65, 64},
		{1, most, most / 64}, {3, most, 3 * most / 64}, {63, most, 63 * most / 64}, {64, most, most},
	} {
		if got := len(made(t, c.width, c.n).Words()); got != c.want {
			t.Errorf("%d numbers of %d digits: %d words, want %d", c.n, c.width, got, c.want)
		}
		if _, e := packed.From(c.width, c.n, make([]uint64, c.want)...); e != api.OK {
			t.Errorf("From(%d, %d): %v", c.width, c.n, e)
		}
	}
}

func TestGreatestRow(t *testing.T) {
	for _, width := range []int{1, 13, 63, 64} {
		row := plain(width, most, func(i int) uint64 { return muddle(uint64(i)) })
		a := filled(t, width, row)
		same(t, "the greatest row", a, width, row)
		b, e := packed.From(width, most, a.Words()...)
		if e != api.OK {
			t.Fatal(width, e)
		}
		same(t, "the greatest row, From", b, width, row)
	}
}

func TestFromErrsAsNew(t *testing.T) {
	for _, c := range shapes {
		for _, words := range [][]uint64{nil, {0}, {math.MaxUint64}, {0, 0, 0}} {
			a, e := packed.From(c.width, c.n, words...)
			if c.want != api.OK && (a != nil || e != c.want) {
				t.Errorf("From(%d, %d, %x): %v, want %v", c.width, c.n, words, e, c.want)
			}
		}
	}
}

// refused tells of a From that answers anything but ErrForm.
func refused(t *testing.T, name string, width, n int, words []uint64) {
	t.Helper()
	if a, e := packed.From(width, n, words...); a != nil || e != api.ErrForm {
		t.Fatalf("%s, %d numbers of %d digits: %v; nil: %t", name, n, width, e, a == nil)
	}
}

func TestFromTooFewOrMany(t *testing.T) {
	for width := 1; width <= 64; width++ {
		for _, n := range lengths {
			words := digits(width, make([]uint64, n))
			refused(t, "a word of 0 too many", width, n, append(slices.Clone(words), 0))
			refused(t, "a word too many", width, n, append(slices.Clone(words), 1))
			refused(t, "many too many", width, n, make([]uint64, len(words)+100))
			if len(words) > 0 {
				refused(t, "a word too few", width, n, words[1:])
				refused(t, "no word", width, n, nil)
			}
		}
	}
	refused(t, "no word", 64, most, nil)
	refused(t, "a word too few", 1, most, make([]uint64, most/64-1))
	refused(t, "a word too many", 1, most, make([]uint64, most/64+1))
}

// Each digit behind the last number, alone, and all at once.
func TestFromDigitsBehind(t *testing.T) {
	for width := 1; width <= 64; width++ {
		for _, n := range lengths {
			words := digits(width, plain(width, n, func(i int) uint64 { return math.MaxUint64 }))
			last := len(words) - 1
			for d := width * n; d < 64*len(words); d++ {
				more := slices.Clone(words)
				more[last] |= 1 << (d % 64)
				refused(t, "digit "+strconv.Itoa(d), width, n, more)
				more[last] = 1 << (d % 64)
				refused(t, "digit "+strconv.Itoa(d)+" alone", width, n, more)
			}
			if width*n < 64*len(words) {
				words[last] = math.MaxUint64
				refused(t, "all digits", width, n, words)
			}
		}
	}
}

// Words of which each digit counts are taken as they are.
func TestFromWords(t *testing.T) {
	for width := 1; width <= 64; width++ {
		words := make([]uint64, width)
		for i := range words {
			words[i] = muddle(uint64(i + width))
		}
		a, e := packed.From(width, 64, words...)
		if e != api.OK {
			t.Fatal(width, e)
		}
		row := make([]uint64, 64)
		for at := range 64 * width {
			row[at/width] |= words[at/64] >> (at % 64) & 1 << (at % width)
		}
		same(t, "From, "+strconv.Itoa(width)+" digits", a, width, row)
	}
}

// P3.3

func TestFromOfWords(t *testing.T) {
	each(func(name string, width int, row []uint64) {
		for how, a := range map[string]*packed.Array{"New, ": filled(t, width, row), "Pack, ": packed.Pack(row...)} {
			width := a.Width()
			b, e := packed.From(width, a.Len(), a.Words()...)
			if e != api.OK || b == nil {
				t.Fatal(how, name, e)
			}
			same(t, how+name, a, width, row)
			same(t, how+name+", From of Words", b, width, row)

			// The two are rows of their own, to be set alone.
			for i, v := range row {
				if e := b.Set(i, ^v&greatest(width)); e != api.OK {
					t.Fatal(how, name, i, e)
				}
			}
			same(t, how+name+", the other set", a, width, row)
		}
	})
}

func TestHandedIn(t *testing.T) {
	room := []uint64{5, 1, 7, 90, 91} // the last two are spare room
	a := packed.Pack(room[:3]...)
	if !slices.Equal(room, []uint64{5, 1, 7, 90, 91}) {
		t.Error("numbers changed", room)
	}
	for i := range room {
		room[i] = 2
	}
	same(t, "numbers kept", a, 3, []uint64{5, 1, 7})
	a.Set(0, 6)
	if !slices.Equal(room, []uint64{2, 2, 2, 2, 2}) {
		t.Error("numbers kept, and set", room)
	}

	words := []uint64{1, 2, 3, 4}
	a, e := packed.From(64, 2, words[:2]...)
	if e != api.OK || !slices.Equal(words, []uint64{1, 2, 3, 4}) {
		t.Error("words changed", words, e)
	}
	a.Set(0, 9)
	if !slices.Equal(words, []uint64{1, 2, 3, 4}) {
		t.Error("words kept, and set", words)
	}
	for i := range words {
		words[i] = 8
	}
	same(t, "words kept", a, 64, []uint64{9, 2})
}

func TestAnsweredIsNew(t *testing.T) {
	for width := 1; width <= 64; width++ {
		row := plain(width, 40, func(i int) uint64 { return muddle(uint64(i)) })
		a := filled(t, width, row)
		first, second := a.Words(), a.Words()
		for i := range first {
			first[i] = ^first[i]
		}
		spare := first[len(first):cap(first)]
		for i := range spare {
			spare[i] = 77
		}
		same(t, "Words changed", a, width, row)
		if !slices.Equal(second, digits(width, row)) {
			t.Fatal("one answer shares with another", width)
		}
		for i := range row {
			a.Set(i, 0)
		}
		if !slices.Equal(second, digits(width, row)) {
			t.Fatal("an answer changes behind a Set", width)
		}
	}
}

func TestNothingAskedChanges(t *testing.T) {
	each(func(name string, width int, row []uint64) {
		a := filled(t, width, row)
		for i := -70; i < len(row)+70; i++ {
			a.Get(i)
		}
		a.Len()
		a.Width()
		a.Words()
		same(t, name, a, width, row)
	})
}

func TestNilArray(t *testing.T) {
	var a *packed.Array
	same(t, "nil", a, 0, nil)
	if len(a.Words()) != 0 {
		t.Error("a nil Array has words")
	}
	for _, i := range append(nowhere, 0, 1, 64) {
		for _, v := range []uint64{0, 1, math.MaxUint64} {
			if e := a.Set(i, v); e != api.ErrArg {
				t.Errorf("Set(%d, %x) of a nil Array: %v", i, v, e)
			}
		}
	}
}

func TestZeroArray(t *testing.T) {
	a := new(packed.Array)
	same(t, "zero value", a, 0, nil)
	if e := a.Set(0, 0); e != api.ErrArg {
		t.Error(e)
	}
	same(t, "zero value, behind a Set", a, 0, nil)
}
