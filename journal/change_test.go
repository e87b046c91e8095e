package journal_test

import (
	"fmt"
	"math"
	"slices"
	"strconv"
	"strings"
	"testing"

	"haystack/api"
	"haystack/disk"
)

// P15.2

// some is a pair with a base 3, of term 2, and entries 4 to 7: the group is that of 4 up to 5, that of 6 from there on.
func some(t *testing.T) *pair {
	t.Helper()
	x := begin(t, wide, 0, 1, 2)
	answers(t, "SetTerm", x.setTerm(2, 1), api.OK)
	answers(t, "Append", x.append(empty(1), data(1, "one"), data(2, "two"), config(2, 0, 1), data(2, "five"), config(3, 1), empty(2)), api.OK)
	answers(t, "Compact", x.compact(3, "snap"), api.OK)
	x.holds()
	return x
}

// bytesOf tells of a file that has not just these bytes, all of which last.
func bytesOf(t *testing.T, what string, d *disk.Disk, name, want string) {
	t.Helper()
	if got := files(d)[name]; got != (file{want, ""}) {
		t.Errorf("%s: %s: %s, then %s, want %s", what, name, short(got.lasts), short(got.others), short(want))
	}
}

// unchanged tells of a call that answers something else, or changes something.
func (x *pair) unchanged(want api.Errno, call func() api.Errno) {
	x.t.Helper()
	was, state := files(x.d), stateOf(x.j)
	x.fuse(0) // nothing is tried either
	answers(x.t, x.what(), call(), want)
	x.fuse(-1)
	sameFiles(x.t, x.what(), files(x.d), was)
	if got := stateOf(x.j); got != state {
		x.t.Errorf("%s: %s, want %s", x.what(), got, state)
	}
	x.holds()
}

func TestSetTerm(t *testing.T) {
	x := begin(t, wide, 0, 1)
	log := baseRecord(0, 0, 0, 1) + termRecord(0, -1)
	for _, one := range []struct {
		term, vote int
		want       api.Errno
		record     string
	}{
		{0, -1, api.OK, ""},
		{-1, -1, api.ErrArg, ""},
		{0, -2, api.ErrArg, ""},
		{0, 7, api.ErrArg, ""},
		{math.MinInt, math.MinInt, api.ErrArg, ""},
		{0, 6, api.OK, "\x02\x00\x07"}, // one may vote in term 0, too, and for one who is not of the group
		{0, 6, api.OK, ""},
		{0, 5, api.ErrArg, ""},
		{0, -1, api.ErrArg, ""}, // a vote is not taken back
		{1, -1, api.OK, "\x02\x01\x00"},
		{1, -1, api.OK, ""},
		{1, 0, api.OK, "\x02\x01\x01"},
		{1, 0, api.OK, ""},
		{1, 1, api.ErrArg, ""},
		{1, -1, api.ErrArg, ""},
		{0, 0, api.ErrArg, ""},
		{0, -1, api.ErrArg, ""},
		{2, 0, api.OK, "\x02\x02\x01"},
		{2, -2, api.ErrArg, ""},
		{3, 7, api.ErrArg, ""},
		{3, math.MaxInt, api.ErrArg, ""},
		{3, math.MinInt, api.ErrArg, ""},
		{300, 3, api.OK, "\x02\xac\x02\x04"},
		{most + 1, -1, api.ErrArg, ""},
		{math.MaxInt, 3, api.ErrArg, ""},
		{most - 1, -1, api.OK, "\x02\xff\xff\xff\xff\xff\x1f\x00"},
		{most, -1, api.OK, "\x02\x80\x80\x80\x80\x80\x20\x00"},
		{most, 2, api.OK, "\x02\x80\x80\x80\x80\x80\x20\x03"},
		{most, 3, api.ErrArg, ""},
		{most + 1, 2, api.ErrArg, ""},
		{most - 1, 2, api.ErrArg, ""},
	} {
		call := func() api.Errno { return x.setTerm(one.term, one.vote) }
		what := fmt.Sprintf("SetTerm(%d, %d)", one.term, one.vote)
		if one.record == "" {
			x.unchanged(one.want, call)
		} else {
			answers(t, what, call(), one.want)
			log += framed(one.record)
			if term, vote := x.j.Term(); term != one.term || vote != one.vote {
				t.Errorf("%s: Term %d %d", what, term, vote)
			}
		}
		x.holds()
		bytesOf(t, what, x.d, "p-log", log)
	}
	x.reopen(0)
}

// noEntries is what is no entry.
func noEntries() []api.Entry {
	x := []byte("x")
	l := []api.Entry{
		empty(-1), empty(most + 1), empty(math.MaxInt), empty(math.MinInt), data(-1, "x"), data(most+1, "x"), config(-1, 0), config(most+1, 0),
		{Kind: -1}, {Kind: 3}, {Kind: 4, Data: x}, {Kind: 3, Nodes: []int{0}}, {Kind: math.MaxInt}, {Kind: math.MinInt}, {Kind: -1, Data: x}, {Kind: 257, Data: x}, {Kind: 1 << 32},
		{Kind: 0, Data: x}, {Kind: 0, Nodes: []int{0}}, {Kind: 0, Data: x, Nodes: []int{0}},
		{Kind: 1}, {Kind: 1, Data: []byte{}}, {Kind: 1, Nodes: []int{0}}, {Kind: 1, Data: x, Nodes: []int{0}}, data(1, strings.Repeat("x", 65537)), data(1, strings.Repeat("x", 1<<20)),
		{Kind: 2, Data: x, Nodes: []int{0}}, {Kind: 2, Data: x},
	}
	for _, nodes := range noGroups() {
		l = append(l, config(1, nodes...))
	}
	return l
}

func TestAppendOfNoEntry(t *testing.T) {
	x := some(t)
	for _, bad := range noEntries() {
		x.unchanged(api.ErrArg, func() api.Errno { return x.append(bad) })
		x.unchanged(api.ErrArg, func() api.Errno { return x.append(empty(1), bad) })
		x.unchanged(api.ErrArg, func() api.Errno { return x.append(bad, empty(1)) })
		x.unchanged(api.ErrArg, func() api.Errno { return x.append(data(1, "x"), bad, config(1, 0)) })
	}
	x.unchanged(api.OK, func() api.Errno { return x.append() })
	x.reopen(0)
	x.unchanged(api.OK, func() api.Errno { return x.append() })
}

func TestAppend(t *testing.T) {
	x := begin(t, wide, 0, 1)
	log := baseRecord(0, 0, 0, 1) + termRecord(0, -1)
	index := 0
	long := strings.Repeat("x", 65536)
	for _, one := range []struct {
		l     []api.Entry
		bytes []string
	}{
		{[]api.Entry{empty(0)}, []string{"\x03\x01\x00\x00\x00\x00"}},
		{[]api.Entry{data(3, "\x00"), config(2, 0, 6), empty(300)}, []string{"\x03\x02\x03\x01\x01\x00\x00", "\x03\x03\x02\x02\x00\x02\x00\x06", "\x03\x04\xac\x02\x00\x00\x00"}}, // terms may fall
		{[]api.Entry{data(most, long)}, []string{"\x03\x05" + nums(most) + "\x01" + "\x80\x80\x04" + long + "\x00"}},
		{[]api.Entry{config(1, all7...)}, []string{"\x03\x06\x01\x02\x00\x07\x00\x01\x02\x03\x04\x05\x06"}},
		{[]api.Entry{{Term: 1, Data: []byte{}, Nodes: []int{}}, {Term: 1, Kind: 1, Data: []byte("x"), Nodes: []int{}}, {Term: 1, Kind: 2, Data: []byte{}, Nodes: []int{5}}}, []string{"\x03\x07\x01\x00\x00\x00", "\x03\x08\x01\x01\x01x\x00", "\x03\x09\x01\x02\x00\x01\x05"}},
	} {
		what := fmt.Sprintf("Append of %d behind %d", len(one.l), index)
		answers(t, what, x.append(one.l...), api.OK)
		for _, b := range one.bytes {
			log += framed(b)
		}
		bytesOf(t, what, x.d, "p-log", log)
		x.holds()
		for i, want := range one.l {
			index++
			if got, e := x.j.At(index); shown(got) != shown(want) || e != api.OK {
				t.Errorf("%s: At(%d): %s %v, want %s", what, index, short(shown(got)), e, short(shown(one.l[i])))
			}
		}
	}
	many := make([]api.Entry, 1000)
	for i := range many {
		many[i] = data(i, strconv.Itoa(i))
	}
	answers(t, "many", x.j.Append(many...), api.OK)
	for i, one := range many {
		log += entryRecord(index+1+i, one)
	}
	bytesOf(t, "many", x.d, "p-log", log)
}

// Several are written all at once: one of the disk's steps, and Sync another one.
func TestAppendAtOnce(t *testing.T) {
	for fuse := range 4 {
		x := some(t)
		was, _ := x.d.Read("p-log")
		x.fuse(fuse)
		want := api.OK
		if fuse < 2 {
			want = api.ErrDead
		}
		answers(t, x.what(), x.append(data(3, "a"), empty(3), config(4, 2)), want)
		more := entryRecord(8, data(3, "a")) + entryRecord(9, empty(3)) + entryRecord(10, config(4, 2))
		asked := []file{{string(was), ""}, {string(was), more}, {string(was) + more, ""}}[min(fuse, 2)]
		if got := files(x.d)["p-log"]; got != asked {
			t.Errorf("Fuse(%d): %s, then %s, want %s, then %s", fuse, short(got.lasts), short(got.others), short(asked.lasts), short(asked.others))
		}
		x.holds()
	}
}

// Up to the number 2^40 entries are taken.
func TestAppendUpToTheGreatestNumber(t *testing.T) {
	x := begin(t, wide, 0, 1)
	answers(t, "Install", x.install(most-3, 1, []int{0}, ""), api.OK)
	x.unchanged(api.ErrArg, func() api.Errno { return x.append(empty(1), empty(1), empty(1), empty(1)) })
	answers(t, "to 2^40 less 1", x.append(empty(1), empty(1)), api.OK)
	x.unchanged(api.ErrArg, func() api.Errno { return x.append(empty(1), empty(1)) })
	answers(t, "to 2^40", x.append(empty(1)), api.OK)
	x.unchanged(api.ErrArg, func() api.Errno { return x.append(empty(1)) })
	x.unchanged(api.OK, func() api.Errno { return x.append() })
	x.unchanged(api.OK, func() api.Errno { return x.cut(most + 1) })
	x.unchanged(api.OK, func() api.Errno { return x.cut(math.MaxInt) })
	x.reopen(0)
	x.unchanged(api.ErrArg, func() api.Errno { return x.append(empty(1)) })
	answers(t, "Compact of 2^40", x.compact(most, "all"), api.OK)
	x.holds()
	x.unchanged(api.ErrArg, func() api.Errno { return x.append(empty(1)) })
	x.unchanged(api.ErrArg, func() api.Errno { return x.install(most, 1, []int{0}, "") })
	x.unchanged(api.ErrArg, func() api.Errno { return x.install(most+1, 1, []int{0}, "") })
	x.reopen(0)
}

func TestCut(t *testing.T) {
	for _, from := range []int{math.MinInt, -1, 0, 1, 2, 3} {
		x := some(t)
		x.unchanged(api.ErrArg, func() api.Errno { return x.cut(from) })
	}
	for _, from := range []int{8, 9, 10, most, most + 1, math.MaxInt - 1, math.MaxInt} {
		x := some(t)
		x.unchanged(api.OK, func() api.Errno { return x.cut(from) })
	}
	for from := 4; from <= 7; from++ {
		x := some(t)
		was, _ := x.d.Read("p-log")
		answers(t, "Cut", x.cut(from), api.OK)
		log := string(was) + framed("\x04"+string(rune(from)))
		bytesOf(t, x.what(), x.d, "p-log", log)
		x.holds()
		if last, _ := x.j.Last(); last != from-1 {
			t.Errorf("Cut(%d): Last %d", from, last)
		}
		x.unchanged(api.OK, func() api.Errno { return x.cut(from) }) // there is none any more
		answers(t, "Append", x.append(data(9, "other")), api.OK)
		bytesOf(t, x.what(), x.d, "p-log", log+entryRecord(from, data(9, "other")))
		x.holds()
		x.reopen(0)
	}
	x := begin(t, wide, 0)
	x.unchanged(api.ErrArg, func() api.Errno { return x.cut(0) })
	x.unchanged(api.OK, func() api.Errno { return x.cut(1) })
}

func TestCompact(t *testing.T) {
	for _, index := range []int{math.MinInt, -1, 0, 1, 2, 3, 8, 9, most, most + 1, math.MaxInt - 1, math.MaxInt} {
		x := some(t)
		x.unchanged(api.ErrArg, func() api.Errno { return x.compact(index, "more") })
	}
	entries := []api.Entry{config(2, 0, 1), data(2, "five"), config(3, 1), empty(2)} // 4 to 7
	for index := 4; index <= 7; index++ {
		for _, text := range []string{"", "more", "\x00", strings.Repeat("d", 1<<19)} {
			x := some(t)
			answers(t, "Compact", x.compact(index, text), api.OK)
			nodes := [][]int{{0, 1}, {0, 1}, {1}, {1}}[index-4]
			term := entries[index-4].Term
			log := baseRecord(index, term, nodes...) + termRecord(2, 1)
			for n := index + 1; n <= 7; n++ {
				log += entryRecord(n, entries[n-4])
			}
			sameFiles(t, x.what(), files(x.d), map[string]file{"p-log": {log, ""}, "p-snap": {snapshotOf(index, term, nodes, text), ""}})
			x.holds()
			x.unchanged(api.ErrArg, func() api.Errno { return x.compact(index, text) })
			x.reopen(0)
		}
		x := some(t)
		x.unchanged(api.ErrArg, func() api.Errno { return x.compact(index, strings.Repeat("d", 1<<19+1)) })
		x.unchanged(api.ErrArg, func() api.Errno { return x.compact(index, strings.Repeat("d", 1<<20)) })
	}
	// without an EntryConfig up to there the group is the base's
	x := begin(t, wide, 0, 5)
	answers(t, "Append", x.append(data(1, "a"), data(1, "b"), config(1, 2), data(1, "c")), api.OK)
	for index, nodes := range map[int][]int{1: {0, 5}, 2: {0, 5}, 3: {2}, 4: {2}} {
		y := x.copied()
		answers(t, "Compact", y.compact(index, "x"), api.OK)
		bytesOf(t, y.what(), y.d, "p-snap", snapshotOf(index, 1, nodes, "x"))
		y.holds()
	}
	for index := 1; index <= 4; index++ { // one behind the other
		answers(t, "Compact", x.compact(index, strconv.Itoa(index)), api.OK)
		x.holds()
	}
	x.unchanged(api.ErrArg, func() api.Errno { return x.compact(5, "x") })
	x.reopen(0)
}

func TestInstallOfWhatIsNotToBe(t *testing.T) {
	x := some(t)
	for _, index := range []int{math.MinInt, -1, 0, 1, 2, 3, most + 1, 1 << 62, math.MaxInt} {
		x.unchanged(api.ErrArg, func() api.Errno { return x.install(index, 2, []int{0}, "other") })
	}
	for _, index := range []int{4, 7, 8, 100, most} {
		for _, term := range []int{math.MinInt, -1, most + 1, math.MaxInt} {
			x.unchanged(api.ErrArg, func() api.Errno { return x.install(index, term, []int{0}, "other") })
		}
		for _, nodes := range noGroups() {
			x.unchanged(api.ErrArg, func() api.Errno { return x.install(index, 2, nodes, "other") })
		}
		x.unchanged(api.ErrArg, func() api.Errno { return x.install(index, 2, []int{0}, strings.Repeat("d", 1<<19+1)) })
	}
}

func TestInstall(t *testing.T) {
	entries := []api.Entry{config(2, 0, 1), data(2, "five"), config(3, 1), empty(2)} // 4 to 7
	for _, index := range []int{4, 5, 6, 7, 8, 9, 300, most} {
		for _, term := range []int{0, 1, 2, 3, most} {
			x := some(t)
			nodes, text := []int{2, 4, 6}, "other"
			if term == 1 {
				nodes, text = all7, strings.Repeat("d", 1<<19)
			}
			answers(t, "Install", x.install(index, term, nodes, text), api.OK)
			log, stay := baseRecord(index, term, nodes...)+termRecord(2, 1), 0
			if index <= 7 && entries[index-4].Term == term {
				for n := index + 1; n <= 7; n++ {
					log += entryRecord(n, entries[n-4])
					stay++
				}
			}
			sameFiles(t, x.what(), files(x.d), map[string]file{"p-log": {log, ""}, "p-snap": {snapshotOf(index, term, nodes, text), ""}})
			if last, _ := x.j.Last(); last != index+stay {
				t.Errorf("%s: Last %d, want %d", x.what(), last, index+stay)
			}
			x.holds()
			x.unchanged(api.ErrArg, func() api.Errno { return x.install(index, term, nodes, text) })
			x.reopen(0)
			if index < most {
				answers(t, "Append", x.append(data(7, "next")), api.OK)
				x.holds()
				x.reopen(0)
			}
		}
	}
	x := begin(t, wide, 0)
	answers(t, "Install of 1", x.install(1, 0, []int{3}, ""), api.OK)
	x.holds()
	x.reopen(0)
}

// changes is what may be done to what some is, and errs where the disk does.
func changes() map[string]func(x *pair) api.Errno {
	return map[string]func(x *pair) api.Errno{
		"SetTerm":         func(x *pair) api.Errno { return x.setTerm(5, 4) },
		"SetTerm, a vote": func(x *pair) api.Errno { return x.setTerm(3, -1) },
		"Append":          func(x *pair) api.Errno { return x.append(empty(3)) },
		"Append of some":  func(x *pair) api.Errno { return x.append(data(3, "a"), config(3, 4, 5), data(3, "c")) },
		"Cut":             func(x *pair) api.Errno { return x.cut(5) },
		"Compact":         func(x *pair) api.Errno { return x.compact(6, "more") },
		"Install":         func(x *pair) api.Errno { return x.install(5, 2, []int{6}, "more") },
		"Install of more": func(x *pair) api.Errno { return x.install(9, 2, []int{6}, "more") },
	}
}

// dies tells of a journal that is not dead: of any call that is to change something.
func (x *pair) dies() {
	x.t.Helper()
	x.d.Fuse(-1) // not of its disk alone
	x.p.d.Fuse(-1)
	was := files(x.d)
	x.holds()
	for _, one := range changes() {
		answers(x.t, x.what(), one(x), api.ErrDead)
	}
	long := strings.Repeat("d", 1<<19+1)
	for _, e := range []api.Errno{ // what would do nothing, or may not be handed in
		x.setTerm(x.p.term, x.p.vote), x.setTerm(-1, -2), x.append(), x.append(empty(-1)), x.cut(math.MaxInt), x.cut(-1),
		x.compact(-1, ""), x.compact(5, long), x.install(-1, -1, nil, ""), x.install(9, 2, []int{1, 0}, long),
	} {
		answers(x.t, x.what(), e, api.ErrDead)
	}
	sameFiles(x.t, x.what(), files(x.d), was)
	x.holds()
}

func TestFuse(t *testing.T) {
	steps := map[string]int{"SetTerm": 2, "SetTerm, a vote": 2, "Append": 2, "Append of some": 2, "Cut": 2, "Compact": 6, "Install": 6, "Install of more": 6}
	for what, change := range changes() {
		for fuse := range steps[what] + 1 {
			for _, draw := range []int{0, 1, 5, 20, 40, 60, 1 << 20} {
				x := some(t)
				x.fuse(fuse)
				e := change(x)
				if (e == api.OK) != (fuse == steps[what]) || e != api.OK && e != api.ErrDead {
					t.Errorf("%s: Fuse(%d): %v", what, fuse, e)
				}
				x.holds()
				if e != api.OK {
					if fuse%2 == 0 {
						x.dies()
					}
				} else {
					answers(t, what, x.setTerm(9, 1), api.ErrDead) // now it is burnt
				}
				x.reopen(draw)
			}
		}
	}
}

// halves stand in the way of none: they are removed, which is a step more.
func TestHalvesInTheWay(t *testing.T) {
	for _, what := range []string{"Compact", "Install", "Install of more"} {
		for halves := range 4 {
			for fuse := range 10 {
				x := some(t)
				for i, name := range []string{"p-log~", "p-snap~"} {
					if halves>>i&1 == 1 {
						lay(t, x.d, name, "half")
						lay(t, x.p.d, name, "half")
					}
				}
				x.fuse(fuse)
				e := changes()[what](x)
				if asked := []int{6, 7, 7, 8}[halves]; (e == api.OK) != (fuse >= asked) {
					t.Errorf("%s, halves %02b, Fuse(%d): %v", what, halves, fuse, e)
				}
				x.holds()
				x.reopen(fuse)
			}
		}
	}
}

// moved is a pair of what the files of a disk are, on disks with another room.
func moved(t *testing.T, d *disk.Disk, much int) *pair {
	t.Helper()
	x := &pair{t: t, d: room(t, much), p: &plain{d: room(t, much), prefix: "p", nodes: []int{6}}}
	for name, one := range files(d) {
		lay(t, x.d, name, one.lasts)
		lay(t, x.p.d, name, one.lasts)
	}
	x.open()
	return x
}

func TestNoRoom(t *testing.T) {
	for what, change := range changes() {
		full := 0
		for much := some(t).d.Used(); ; much++ { // a little more at a time, up to what is needed
			x := moved(t, some(t).d, much)
			e := change(x)
			x.holds()
			if e == api.OK {
				break
			}
			full++
			may := x.may
			answers(t, what, e, api.ErrFull)
			if much%7 == 0 {
				x.dies()
			}
			x.crash(0)
			// A snapshot may have been saved behind which no log could be: Open has no room for it either.
			if e := x.open(); e != api.OK {
				answers(t, what, e, api.ErrFull)
			}
			y := moved(t, x.d, wide)
			if got := stateOf(y.j); !slices.Contains(may, got) {
				t.Errorf("%s, room %d: %s, want one of %q", what, much, got, may)
			}
			if full > 1000 {
				t.Fatalf("%s: no room is enough", what)
			}
		}
		if full == 0 {
			t.Errorf("%s: nothing was needed", what)
		}
	}
}

// As many files as a disk takes: the way on is found all the same.
func TestTooManyFiles(t *testing.T) {
	for what, change := range changes() {
		x := some(t)
		for i := range api.MaxFiles - 2 {
			for _, d := range []*disk.Disk{x.d, x.p.d} {
				answers(t, "a file", d.Append("f"+strconv.Itoa(i)), api.OK)
			}
		}
		e, want := change(x), api.OK
		if !slices.Contains([]string{"SetTerm", "SetTerm, a vote", "Append", "Append of some", "Cut"}, what) {
			want = api.ErrFull
		}
		answers(t, what, e, want)
		x.holds()
		if e != api.OK {
			x.dies()
		}
		x.reopen(0)
	}
}

func TestExample(t *testing.T) {
	j := open(t, "the chapter's example", room(t, 1000), "a", 0, 1, 2)
	answers(t, "Append", j.Append(data(3, "one"), data(4, "two")), api.OK)
	answers(t, "Compact", j.Compact(1, []byte("x")), api.OK)
	if index, term := j.Base(); index != 1 || term != 3 {
		t.Errorf("Base: %d %d, want 1 3", index, term)
	}
	if index, term := j.Last(); index != 2 || term != 4 {
		t.Errorf("Last: %d %d, want 2 4", index, term)
	}
}
