package shard_test

import (
	"fmt"
	"maps"
	"slices"
	"strconv"
	"testing"

	"haystack/api"
	"haystack/disk"
	"haystack/keep"
	"haystack/shard"
)

// P14.4 and P14.6

// loads tells of a file that was not Saved with these bytes.
func loads(t *testing.T, what string, d *disk.Disk, name, want string) {
	t.Helper()
	b, e := keep.Load(d, name)
	if string(b) != want || e != api.OK {
		t.Errorf("%s: %s: %s %v, want %s", what, name, short(string(b)), e, short(want))
	}
}

// parts tells of a shard of which Parts are others.
func parts(t *testing.T, what string, s *shard.Shard, segments, loose, sure int) {
	t.Helper()
	a, b, c := s.Parts()
	if a != segments || b != loose || c != sure {
		t.Errorf("%s: Parts %d %d %d, want %d %d %d", what, a, b, c, segments, loose, sure)
	}
}

// hasFiles tells of a disk that has not just these files.
func hasFiles(t *testing.T, what string, d *disk.Disk, names ...string) {
	t.Helper()
	if l := d.List(); !slices.Equal(l, names) {
		t.Errorf("%s: files %q, want %q", what, l, names)
	}
}

func TestFlushOfAnEmptyTable(t *testing.T) {
	d := room(t, wide)
	s := open(t, "empty", d, "d")
	answers(t, "Flush", s.Flush(), api.OK)
	hasFiles(t, "empty", d, "d-list")
	loads(t, "empty", d, "d-list", "\x00\x01\x00\x00")
	parts(t, "empty", s, 0, 0, 0)
	saysAll(t, "empty", s, line{gone(5, 300, "a"), errNone})
	s.Skip(2)
	parts(t, "ahead of Flush", s, 0, 0, 0)
	answers(t, "Flush", s.Flush(), api.OK)
	hasFiles(t, "a session", d, "d-list") // there is nothing to be a segment of
	loads(t, "a session", d, "d-list", "\x02\x01\x00\x01\x05\xac\x02\x02\x07\x00")
	parts(t, "a session", s, 0, 0, 2)
}

// The names and the bytes of files, written out.
func TestFlushFiles(t *testing.T) {
	d := room(t, wide)
	s := open(t, "files", d, "d")
	saysAll(t, "files", s, line{put(1, 1, "b", "xay"), okNew}, line{put(300, 2, "a", "ay"), okNew}, line{put(0, 0, "c", ""), okNew}, line{gone(2, 9, "c"), okGone})
	parts(t, "files", s, 0, 3, 0)
	answers(t, "Flush", s.Flush(), api.OK)
	hasFiles(t, "one", d, "d-1", "d-list")
	loads(t, "one", d, "d-1", encoded(t, some("a:ay", "b:xay", "c")))
	sessions := "\x04" + "\x00\x00\x03\x00\x01\x00" + "\x01\x01\x03\x00\x01\x00" + "\x02\x09\x02\x00\x00"
	loads(t, "one", d, "d-list", "\x04\x02\x01\x01"+sessions+"\xac\x02\x02\x03\x00\x01\x00")
	parts(t, "one", s, 1, 0, 4)
	saysAll(t, "files", s, line{put(300, 3, "d", "d"), okNew}, line{gone(300, 4, "a"), okGone})
	parts(t, "two", s, 1, 2, 4)
	answers(t, "Flush", s.Flush(), api.OK)
	hasFiles(t, "two", d, "d-1", "d-2", "d-list")
	loads(t, "two", d, "d-2", encoded(t, some("a", "d:d")))
	loads(t, "two", d, "d-list", "\x06\x03\x02\x02\x01"+sessions+"\xac\x02\x04\x02\x00\x00")
	parts(t, "two", s, 2, 0, 6)
	answers(t, "Flush", s.Flush(), api.OK) // of nothing new
	hasFiles(t, "the same", d, "d-1", "d-2", "d-list")
	loads(t, "the same", d, "d-list", "\x06\x03\x02\x02\x01"+sessions+"\xac\x02\x04\x02\x00\x00")
}

func TestFlushMerges(t *testing.T) {
	d := room(t, wide)
	s := open(t, "merges", d, "d")
	for n := 1; n <= 5; n++ {
		what := strconv.Itoa(n)
		l := []line{{put(1, 2*n, "k"+what, "text "+what), okNew}, {put(2, 2*n, "same", what), okHad}}
		if n == 1 {
			l[1].said = okNew
		}
		if n == 4 {
			l = append(l, line{gone(1, 9, "k2"), okGone})
		}
		saysAll(t, what, s, l...)
		answers(t, what, s.Flush(), api.OK)
		if n < 5 {
			parts(t, what, s, n, 0, s.Applied()) // just MaxSegs at the end
			want := []string{"d-1", "d-2", "d-3", "d-4"}[:n]
			hasFiles(t, what, d, append(want, "d-list")...)
		}
	}
	parts(t, "merged", s, 1, 0, 11)
	hasFiles(t, "merged", d, "d-6", "d-list")
	loads(t, "merged", d, "d-6", encoded(t, some("k1:text 1", "k3:text 3", "k4:text 4", "k5:text 5", "same:5"))) // k2 is not even gone
	loads(t, "merged", d, "d-list", "\x0b\x07\x01\x06\x02\x01\x0a\x03\x00\x01\x00\x02\x0a\x03\x00\x01\x01")
	isAll(t, "merged", s, doc("k1", "text 1"), doc("k3", "text 3"), doc("k4", "text 4"), doc("k5", "text 5"), doc("same", "5"))
	saysAll(t, "merged", s, line{put(1, 11, "more", ""), okNew})
	answers(t, "more", s.Flush(), api.OK)
	hasFiles(t, "more", d, "d-6", "d-7", "d-list")
}

// Where all is gone, there is a segment of nothing.
func TestFlushMergesToNothing(t *testing.T) {
	x := begin(t, wide)
	for i := range 5 {
		x.next(put(1, 2*i, "k", "text"))
		if i == 4 {
			x.next(gone(1, 2*i+1, "k"))
		}
		x.flush()
		x.holds()
	}
	parts(t, "nothing", x.s, 1, 0, 6)
	loads(t, "nothing", x.d, "d-6", encoded(t, told{}))
	x.crash(0)
	x.holds()
}

// N's of several digits: files are taken away by names.
func TestFlushMergesByNames(t *testing.T) {
	x := begin(t, wide)
	for i := range 150 {
		x.next(put(1, i, "k"+strconv.Itoa(i%7), text(i, 5)))
		x.flush()
		x.holds()
	}
	if x.p.next < 100 {
		t.Errorf("the N that comes next: %d", x.p.next)
	}
}

// A list with more segments than MaxSegs: a Flush of an empty table merges them.
func TestFlushMergesWhatIsThere(t *testing.T) {
	for many := 3; many <= 12; many++ {
		x := begin(t, wide)
		w := written{7, 100, nil, map[int]last{1: {7, okNew}}}
		for n := range many {
			one := piece{8*n + 2, some("k"+strconv.Itoa(n%5)+":"+text(n, 9), "l"+strconv.Itoa(n%3))}
			w.pieces = append(w.pieces, one)
			for _, d := range []*disk.Disk{x.d, x.p.d} {
				save(t, d, "d-"+strconv.Itoa(one.n), encoded(t, one.told))
			}
		}
		slices.Reverse(w.pieces)
		for _, d := range []*disk.Disk{x.d, x.p.d} {
			save(t, d, "d-list", w.bytes())
		}
		x.p.wrote = w
		x.reopen()
		x.holds()
		for fuse := range 30 {
			y := x.twin()
			y.fuse(fuse)
			y.flush()
			y.holds()
			y.next(put(1, 8, "new", "text"))
			y.fuse(-1)
			y.flush()
			y.holds()
			if segments, _, _ := y.s.Parts(); segments > 4 {
				t.Errorf("%s: %d segments", y.what(), segments)
			}
		}
	}
}

// flushable is pairs of which Flush does all there is: of no segment, of fewer than MaxSegs, of just MaxSegs ahead of it, of an empty table.
func flushable(t *testing.T) map[string]*pair {
	t.Helper()
	l := map[string]*pair{}
	for segments := range 5 {
		x := begin(t, wide)
		for i := range segments {
			x.next(put(1, i, "k"+strconv.Itoa(i%2), text(i, 20)))
			x.next(put(2, i, "l"+strconv.Itoa(i), text(i, 20)))
			x.flush()
		}
		l[fmt.Sprintf("%d segments", segments)] = x
	}
	return l
}

// The fuse burns at each place.
func TestFlushByFuses(t *testing.T) {
	for what, x := range flushable(t) {
		for _, loose := range []int{0, 1, 3} {
			steps := 0
			for fuse := 0; ; fuse++ {
				y := x.twin()
				y.did("%s, %d keys", what, loose)
				for i := range loose {
					y.next(put(7, i, "k"+strconv.Itoa(i), "loose"))
				}
				if loose == 3 {
					y.next(gone(7, 9, "k1"))
				}
				was := y.p.copied()
				y.fuse(fuse)
				e := y.flush()
				y.holds()
				if e == api.OK {
					steps = fuse
				}
				flushedAt(t, y, was, e)
				again(y)
				if e == api.OK {
					break
				}
			}
			if want := stepsOf(what, loose); steps != want {
				t.Errorf("%s, %d keys: Flush is %d steps, want %d", what, loose, steps, want)
			}
		}
	}
}

// stepsOf is how many things a Flush does to a disk: three a Save, one a file that is taken away.
func stepsOf(what string, loose int) int {
	segments, _ := strconv.Atoi(what[:1])
	switch {
	case loose == 0:
		return 3
	case segments < 4:
		return 6
	}
	return 14
}

// flushedAt tells of a Flush behind which things are neither as they were nor as they are to be.
func flushedAt(t *testing.T, y *pair, was *plain, e api.Errno) {
	t.Helper()
	if e != api.OK && e != api.ErrDead {
		t.Errorf("%s: %v", y.what(), e)
	}
	segments, loose, sure := y.s.Parts()
	if sure == y.p.applied && loose == 0 && (e == api.OK || len(was.table) > 0) { // it was written down
		if len(was.pieces) == 4 && len(was.table) > 0 && segments != 1 {
			t.Errorf("%s: %d segments", y.what(), segments)
		}
		return
	}
	if e == api.OK || segments != len(was.pieces) || loose != len(was.table) || sure != was.wrote.applied {
		t.Errorf("%s: Parts %d %d %d, were %d %d %d", y.what(), segments, loose, sure, len(was.pieces), len(was.table), was.wrote.applied)
	}
}

// again goes on behind a burnt fuse: once without a crash, once with one.
func again(x *pair) {
	x.t.Helper()
	y := x.twin() // it opens, as behind a crash
	y.holds()
	y.next(put(8, 1, "behind", "a crash"))
	y.flush()
	y.holds()
	x.next(put(8, 1, "burnt", "yet"))
	x.holds()
	x.fuse(-1)
	x.next(put(8, 2, "no fuse", "any more"))
	x.flush()
	x.holds()
	x.next(put(8, 3, "and", "more"))
	x.flush()
	x.holds()
	x.crash(3)
	x.holds()
}

// The N's that were used are not used again: whatever of them lies on the disk, it is not what a list has.
func TestFlushUsesNoNAgain(t *testing.T) {
	for fuse, want := range [][]string{
		{"d-2", "d-list"}, {"d-1~", "d-2", "d-list"}, {"d-1~", "d-2", "d-list"}, // the segment's Save errs
		{"d-1", "d-2", "d-list"}, {"d-1", "d-2", "d-list"}, {"d-1", "d-2", "d-list"}, // the list's
	} {
		d := room(t, wide)
		s := open(t, "used", d, "d")
		saysAll(t, "used", s, line{put(1, 1, "a", "text"), okNew})
		d.Fuse(fuse)
		answers(t, "Flush", s.Flush(), api.ErrDead)
		parts(t, "used", s, 0, 1, 0)
		d.Fuse(-1)
		answers(t, "Flush", s.Flush(), api.OK)
		hasFiles(t, fmt.Sprintf("Fuse(%d)", fuse), d, want...)
		loads(t, "used", d, "d-list", "\x01\x03\x01\x02\x01\x01\x01\x03\x00\x01\x00")
		s = open(t, "used", d, "d")
		hasFiles(t, "opened", d, "d-2", "d-list")
		isAll(t, "opened", s, doc("a", "text"))
	}
}

// An error behind the list's Save: the files of what was merged stay, up to where it erred, till Open.
func TestFlushErrsBehindTheList(t *testing.T) {
	for fuse := 9; fuse <= 14; fuse++ {
		x := flushable(t)["4 segments"]
		x.next(put(7, 1, "k", "loose"))
		x.fuse(fuse)
		e := x.flush()
		answers(t, "Flush", e, []api.Errno{api.ErrDead, api.OK}[fuse/14])
		parts(t, "behind the list", x.s, 1, 0, 9)
		hasFiles(t, "behind the list", x.d, append([]string{"d-1", "d-2", "d-3", "d-4", "d-5", "d-6", "d-list"}[fuse-9:5], "d-6", "d-list")...)
		x.holds()
		x.fuse(-1)
		x.next(put(7, 2, "k", "more"))
		x.flush()
		x.holds()
		x.crash(0)
		x.holds()
		hasFiles(t, "opened", x.d, "d-6", "d-7", "d-list")
	}
}

func TestFlushWithoutRoom(t *testing.T) {
	full := false
	for much := 0; ; much++ {
		x := begin(t, much)
		var e api.Errno
		for i := range 6 {
			x.next(put(1, i, "k"+strconv.Itoa(i), text(i, 3)))
			e = x.flush()
			x.holds()
			full = full || e == api.ErrFull
		}
		if e == api.OK && len(x.p.table) == 0 {
			break
		}
	}
	if !full {
		t.Error("there was room")
	}
}

func TestFlushWithTooManyFiles(t *testing.T) {
	for free := range 4 {
		x := begin(t, wide)
		for i := range api.MaxFiles - free {
			for _, d := range []*disk.Disk{x.d, x.p.d} {
				answers(t, "Append", d.Append("f"+strconv.Itoa(i)), api.OK)
			}
		}
		x.next(put(1, 1, "a", "text"))
		answers(t, strconv.Itoa(free), x.flush(), []api.Errno{api.ErrFull, api.ErrFull, api.OK, api.OK}[free])
		x.says()
	}
}

// loaded is a shard whose table knows more than a segment takes, as the fuse was burnt meanwhile.
func loaded(t *testing.T, keys int) *pair {
	t.Helper()
	x := begin(t, wide)
	x.next(put(1, 0, "elder", "text"))
	x.flush()
	x.fuse(0)
	for i := range keys {
		x.next(put(1, i+1, "k"+strconv.Itoa(10+i), text(i, api.MaxText)))
	}
	x.fuse(-1)
	return x
}

func TestFlushOfWhatNoSegmentTakes(t *testing.T) {
	x := loaded(t, 16)
	was := files(x.d)
	for range 2 {
		answers(t, "Flush", x.flush(), api.ErrLong)
		parts(t, "too long", x.s, 1, 16, 1)
		x.fuse(0) // it is not come to the disk
		answers(t, "Flush", x.flush(), api.ErrLong)
		x.fuse(-1)
		sameFiles(t, "too long", files(x.d), was)
	}
	x.next(put(1, 17, "k10", "x")) // fifteen long texts and a short one
	parts(t, "long", x.s, 2, 0, 18)
	hasFiles(t, "long", x.d, "d-1", "d-10", "d-list") // eight were used where the fuse was burnt, none where it was too long
	x.holds()
	loaded := loaded(t, 15)
	answers(t, "Flush", loaded.flush(), api.OK)
	loaded.holds()
}

// Segments that are too long to be one stay, till they are not.
func TestFlushOfSegmentsThatStay(t *testing.T) {
	x := begin(t, wide)
	seq := 0
	fill := func(round int) {
		for i := range 4 {
			seq++
			x.next(put(1, seq, fmt.Sprintf("k%d%d", round, i), text(seq, api.MaxText)))
		}
		x.flush()
	}
	for round := range 7 {
		fill(round)
		parts(t, "stays", x.s, []int{1, 2, 3, 4, 5, 6, 7}[round], 0, seq)
	}
	x.holds()
	hasFiles(t, "stay", x.d, "d-1", "d-2", "d-3", "d-4", "d-5", "d-6", "d-7", "d-list")
	x.flush()
	parts(t, "stays", x.s, 7, 0, seq)
	x.crash(0)
	x.holds()
	for i := range 28 { // by and by short ones
		seq++
		x.next(put(1, seq, fmt.Sprintf("k%d%d", i/4, i%4), "short"))
	}
	x.holds()
	x.flush()
	x.holds()
	if segments, _, _ := x.s.Parts(); segments > 4 {
		t.Errorf("%d segments", segments)
	}
}

// A list that is longer than a record: chapter 8's error, and nothing is changed.
func TestFlushOfTooManySessions(t *testing.T) {
	d := room(t, wide)
	s := open(t, "sessions", d, "d")
	saysAll(t, "sessions", s, line{put(0, 0, "a", "text"), okNew})
	const each = 6 + 6 + 3 // bytes of a session
	many := api.MaxFrame/each + 1
	for i := range many {
		if said := string(s.Apply(i+2, []byte(gone(most-i, most, "none")))); said != errNone {
			t.Fatalf("%d: %x", i, said)
		}
	}
	for range 2 {
		answers(t, "Flush", s.Flush(), api.ErrLong)
		parts(t, "sessions", s, 0, 1, 0)
		isAll(t, "sessions", s, doc("a", "text"))
	}
	hasFiles(t, "sessions", d, "d-1", "d-2")
	answers(t, "Install", s.Install(7, s.Snapshot()), api.ErrLong)
	parts(t, "sessions", s, 0, 1, 0)
	if s.Applied() != many+1 {
		t.Errorf("applied %d, want %d", s.Applied(), many+1)
	}
	saysAll(t, "sessions", s, line{gone(most-many+1, most, "none"), errNone}, line{gone(most-many+1, 0, "none"), errOld})
}

// P14.6

func TestParts(t *testing.T) {
	d := room(t, wide)
	s := open(t, "Parts", d, "d")
	parts(t, "Open", s, 0, 0, 0)
	saysAll(t, "Put", s, line{put(1, 1, "a", "text"), okNew})
	parts(t, "Put", s, 0, 1, 0)
	saysAll(t, "Put again", s, line{put(1, 2, "a", "text"), okHad})
	parts(t, "Put again", s, 0, 1, 0)
	saysAll(t, "Delete", s, line{gone(1, 3, "a"), okGone})
	parts(t, "Delete", s, 0, 1, 0)
	saysAll(t, "Delete of none", s, line{gone(1, 4, "b"), errNone})
	parts(t, "Delete of none", s, 0, 1, 0)
	s.Skip(5)
	parts(t, "Skip", s, 0, 1, 0)
	s.Get("a")
	s.Find([]byte("a"))
	snapshot := s.Snapshot()
	parts(t, "Snapshot", s, 0, 1, 0)
	answers(t, "Flush", s.Flush(), api.OK)
	parts(t, "Flush", s, 1, 0, 5)
	saysAll(t, "Put", s, line{put(1, 6, "a", "text"), okNew}, line{put(1, 7, "b", "text"), okNew})
	parts(t, "Put", s, 1, 2, 5)
	d.Fuse(1)
	answers(t, "Flush", s.Flush(), api.ErrDead)
	parts(t, "a Flush that errs", s, 1, 2, 5)
	answers(t, "Install", s.Install(9, snapshot), api.ErrDead)
	parts(t, "an Install that errs", s, 1, 2, 5)
	answers(t, "Install", s.Install(9, snapshot[1:]), api.ErrForm)
	parts(t, "an Install that errs", s, 1, 2, 5)
	d.Crash(0)
	s = open(t, "Parts", d, "d")
	parts(t, "Open", s, 1, 0, 5)
	answers(t, "Install", s.Install(3, snapshot), api.OK)
	parts(t, "Install of nothing", s, 0, 0, 3)
	answers(t, "Install", s.Install(2, []byte("\x00\x01\x01a\x00")), api.OK)
	parts(t, "Install", s, 1, 0, 2)
	if l := slices.Sorted(maps.Keys(files(d))); len(l) != 2 {
		t.Errorf("files %q", l)
	}
}
