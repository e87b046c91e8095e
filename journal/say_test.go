package journal_test

import (
	"fmt"
	"math"
	"slices"
	"testing"

	"haystack/api"
	"haystack/journal"
)

// P15.3

// says tells of a journal that does not say just this.
func says(t *testing.T, what string, j *journal.Journal, base, under, last, late int, nodes []int, by int, l ...api.Entry) {
	t.Helper()
	if index, term := j.Base(); index != base || term != under {
		t.Errorf("%s: Base %d %d, want %d %d", what, index, term, base, under)
	}
	if index, term := j.Last(); index != last || term != late {
		t.Errorf("%s: Last %d %d, want %d %d", what, index, term, last, late)
	}
	if got, index := j.Nodes(); !slices.Equal(got, nodes) || index != by {
		t.Errorf("%s: Nodes %v %d, want %v %d", what, got, index, nodes, by)
	}
	for i, want := range l {
		if one, e := j.At(base + 1 + i); shown(one) != shown(want) || e != api.OK {
			t.Errorf("%s: At(%d): %s %v, want %s", what, base+1+i, shown(one), e, shown(want))
		}
		if term, has := j.TermAt(base + 1 + i); term != want.Term || !has {
			t.Errorf("%s: TermAt(%d): %d %t, want %d", what, base+1+i, term, has, want.Term)
		}
	}
	if term, has := j.TermAt(base); term != under || !has {
		t.Errorf("%s: TermAt of the base: %d %t, want %d", what, term, has, under)
	}
	for _, index := range []int{base, base - 1, 0, -1, math.MinInt, base + len(l) + 1, base + len(l) + 2, most, most + 1, math.MaxInt} {
		if one, e := j.At(index); shown(one) != shown(api.Entry{}) || e != api.ErrNone {
			t.Errorf("%s: At(%d): %s %v", what, index, shown(one), e)
		}
		if term, has := j.TermAt(index); index != base && (term != 0 || has) {
			t.Errorf("%s: TermAt(%d): %d %t", what, index, term, has)
		}
	}
}

// again says the same of a journal, and of what Open makes of its disk.
func again(t *testing.T, what string, x *pair, base, under, last, late int, nodes []int, by int, l ...api.Entry) {
	t.Helper()
	x.holds()
	says(t, what, x.j, base, under, last, late, nodes, by, l...)
	x.reopen(0)
	says(t, what+", opened again", x.j, base, under, last, late, nodes, by, l...)
}

func TestSays(t *testing.T) {
	x := begin(t, wide, 0, 1, 2)
	again(t, "of nothing", x, 0, 0, 0, 0, []int{0, 1, 2}, 0)
	a, b, c, d, e := data(3, "a"), config(4, 0, 1), empty(2), config(5, 0), data(7, "e")
	x.append(a)
	again(t, "an entry", x, 0, 0, 1, 3, []int{0, 1, 2}, 0, a)
	x.append(b, c)
	again(t, "three", x, 0, 0, 3, 2, []int{0, 1}, 2, a, b, c)
	x.append(d, e)
	again(t, "five", x, 0, 0, 5, 7, []int{0}, 4, a, b, c, d, e)
	x.cut(5)
	again(t, "four", x, 0, 0, 4, 5, []int{0}, 4, a, b, c, d)
	x.cut(4)
	again(t, "three again", x, 0, 0, 3, 2, []int{0, 1}, 2, a, b, c)
	x.compact(1, "one")
	again(t, "a base", x, 1, 3, 3, 2, []int{0, 1}, 2, b, c)
	x.compact(2, "two")
	again(t, "a base by a group", x, 2, 4, 3, 2, []int{0, 1}, 2, c)
	x.append(d)
	again(t, "a group behind", x, 2, 4, 4, 5, []int{0}, 4, c, d)
	x.cut(3)
	again(t, "a cut of all", x, 2, 4, 2, 4, []int{0, 1}, 2)
	x.append(c, d, e)
	x.compact(5, "five")
	again(t, "a base of all", x, 5, 7, 5, 7, []int{0}, 5)
	x.install(9, 6, []int{4, 5}, "nine")
	again(t, "another base", x, 9, 6, 9, 6, []int{4, 5}, 9)
	x.append(a, b, c)
	x.install(10, 3, []int{6}, "ten") // it is that entry
	again(t, "another base, ahead of entries", x, 10, 3, 12, 2, []int{0, 1}, 11, b, c)
	x.install(11, 3, []int{6}, "eleven") // it is another one
	again(t, "another base, of another log", x, 11, 3, 11, 3, []int{6}, 11)
	if text, nodes := x.j.Snapshot(); string(text) != "eleven" || !slices.Equal(nodes, []int{6}) {
		t.Errorf("Snapshot %q %v", text, nodes)
	}
}

// The group is that of the base, though entries say another one.
func TestSnapshotOfTheBase(t *testing.T) {
	x := begin(t, wide, 3)
	holds := func(want string, group ...int) {
		t.Helper()
		for range 2 {
			if text, nodes := x.j.Snapshot(); string(text) != want || !slices.Equal(nodes, group) {
				t.Errorf("%s: Snapshot %q %v, want %q %v", x.what(), text, nodes, want, group)
			}
			x.reopen(0)
		}
	}
	holds("", 3)
	x.append(config(1, 1), config(1, 2), empty(1))
	holds("", 3)
	x.compact(1, "\x00one")
	holds("\x00one", 1)
	x.compact(3, "")
	holds("", 2)
	x.install(4, 1, []int{0, 6}, "four")
	holds("four", 0, 6)
}

func TestTermIsOfNoEntry(t *testing.T) {
	x := begin(t, wide, 3)
	told := func(want string) {
		t.Helper()
		for range 2 {
			term, vote := x.j.Term()
			if got := fmt.Sprintf("%d %d", term, vote); got != want {
				t.Errorf("%s: Term %s, want %s", x.what(), got, want)
			}
			x.reopen(0)
		}
	}
	told("0 -1")
	x.append(empty(9))
	x.install(7, 8, []int{2}, "")
	told("0 -1")
	x.setTerm(3, 0)
	told("3 0")
	x.setTerm(4, -1)
	x.append(empty(2))
	x.compact(8, "")
	told("4 -1")
	x.setTerm(4, 6)
	x.cut(9)
	told("4 6")
}
