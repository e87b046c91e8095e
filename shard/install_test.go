package shard_test

import (
	"fmt"
	"math"
	"slices"
	"strconv"
	"strings"
	"testing"

	"haystack/api"
	"haystack/keep"
	"haystack/segment"
)

// P14.5

// talks is sessions of all kinds.
func talks() map[int]last {
	return map[int]last{0: {0, okGone}, 1: {most, okHad}, 300: {7, errNone}, most: {3, "\x64\x08\x01\x02\x03\x04\x05\x06\x07\xac\x02"}}
}

func TestSnapshot(t *testing.T) {
	s := open(t, "Snapshot", room(t, wide), "d")
	for i, step := range []struct {
		op   string
		want string
	}{
		{"no op", "\x00\x00"},
		{put(300, 7, "b", "xay"), "\x01\xac\x02\x07\x03\x00\x01\x00" + "\x01\x01b\x03xay"},
		{put(1, 200, "\xff", ""), "\x02\x01\xc8\x01\x03\x00\x01\x00\xac\x02\x07\x03\x00\x01\x00" + "\x02\x01b\x03xay\x01\xff\x00"},
		{gone(0, 0, "a"), "\x03\x00\x00\x02\x07\x00\x01\xc8\x01\x03\x00\x01\x00\xac\x02\x07\x03\x00\x01\x00" + "\x02\x01b\x03xay\x01\xff\x00"},
		{gone(0, 1, "b"), "\x03\x00\x01\x02\x00\x00\x01\xc8\x01\x03\x00\x01\x00\xac\x02\x07\x03\x00\x01\x00" + "\x01\x01\xff\x00"},
		{put(1, 201, "a", "text"), "\x03\x00\x01\x02\x00\x00\x01\xc9\x01\x03\x00\x01\x00\xac\x02\x07\x03\x00\x01\x00" + "\x02\x01a\x04text\x01\xff\x00"},
	} {
		s.Apply(i+1, []byte(step.op))
		for range 2 { // from the table, and from segments
			if got := string(s.Snapshot()); got != step.want {
				t.Errorf("step %d: %q, want %q", i, got, step.want)
			}
			if i%2 == 1 {
				answers(t, "Flush", s.Flush(), api.OK)
			}
		}
	}
}

// installs is pairs to which a snapshot comes: empty ones, and those that have something.
func installs(t *testing.T) map[string]*pair {
	t.Helper()
	l := flushable(t)
	loose := l["3 segments"].twin()
	loose.next(put(7, 1, "loose", "text"))
	loose.next(gone(7, 2, "k1"))
	l["a table"] = loose
	only := begin(t, wide)
	only.next(put(7, 1, "loose", "text"))
	l["a table alone"] = only
	return l
}

func TestInstall(t *testing.T) {
	for i, docs := range [][]api.Doc{nil, {doc("a", "")}, {doc("a", "text"), doc("k0", "another"), doc("z", "\x00\xff")}, {doc(strings.Repeat("k", api.MaxKey), text(1, api.MaxText))}} {
		for _, sessions := range []map[int]last{nil, talks()} {
			for _, done := range []int{0, 2, 9} { // ops ahead of it
				for _, index := range []int{0, 1, done, done + 1, 1 << 30, most} {
					x := begin(t, wide)
					for n := range done {
						x.next(put(1, n, "k"+strconv.Itoa(n), "elder"))
					}
					x.did("documents %d", i)
					x.install(index, sessions, docs...)
					x.holds()
					x.crash(0)
					x.holds()
				}
			}
		}
	}
}

func TestInstallOverOthers(t *testing.T) {
	for what, x := range installs(t) {
		x.did("%s", what)
		x.install(7, talks(), doc("a", "text"), doc("k0", "another"))
		x.holds()
		x.next(put(1, most, "once", "more"))
		x.next(put(300, 6, "old", "one"))
		x.next(put(300, 8, "new", "one"))
		x.next(gone(9, 0, "a"))
		x.holds()
		x.flush()
		x.holds()
		x.install(5, nil)
		x.holds()
		x.crash(0)
		x.holds()
	}
}

// A shard's own snapshot makes another one the same.
func TestInstallOfASnapshot(t *testing.T) {
	for what, x := range installs(t) {
		for other, y := range installs(t) {
			b := x.s.Snapshot()
			answers(t, what, y.s.Install(x.s.Applied(), b), api.OK)
			if got := y.s.Snapshot(); string(got) != string(b) || y.s.Applied() != x.s.Applied() {
				t.Errorf("%s, to %s: %s at %d, want %s at %d", what, other, short(string(got)), y.s.Applied(), short(string(b)), x.s.Applied())
			}
			s := open(t, what, y.d, "d")
			if got := s.Snapshot(); string(got) != string(b) || s.Applied() != x.s.Applied() {
				t.Errorf("%s, to %s, opened: %s at %d", what, other, short(string(got)), s.Applied())
			}
		}
	}
}

// No document needs no segment, whatever there was.
func TestInstallOfNothing(t *testing.T) {
	for what, x := range installs(t) {
		x.install(3, nil)
		x.holds()
		parts(t, what, x.s, 0, 0, 3)
		hasFiles(t, what, x.d, "d-list")
		loads(t, what, x.d, "d-list", nums(3, x.p.next, 0, 0))
	}
}

// Any number is taken; the list has those that a list may have.
func TestInstallOfAnyNumber(t *testing.T) {
	for _, x := range []struct{ index, sure int }{{math.MinInt, 0}, {-1, 0}, {0, 0}, {most, most}, {most + 1, most + 1}, {1 << 62, 1 << 62}, {1<<62 + 1, 1 << 62}, {math.MaxInt, 1 << 62}} {
		d := room(t, wide)
		s := open(t, "any number", d, "d")
		answers(t, "Install", s.Install(x.index, []byte("\x00\x01\x01a\x01b")), api.OK)
		parts(t, strconv.Itoa(x.index), s, 1, 0, x.sure)
		if s.Applied() != x.index {
			t.Errorf("applied %d, want %d", s.Applied(), x.index)
		}
		loads(t, "any number", d, "d-list", nums(x.sure, 2, 1, 1, 0))
		if x.sure <= most {
			s = open(t, "any number", d, "d")
			if s.Applied() != x.sure {
				t.Errorf("applied %d, want %d", s.Applied(), x.sure)
			}
		}
	}
}

// split is of how many documents each segment is, oldest first, by the files of a shard.
func split(t *testing.T, x *pair) []int {
	t.Helper()
	var l []int
	for n := 1; n < 1000; n++ {
		b, e := keep.Load(x.d, "d-"+strconv.Itoa(n))
		if e != api.OK {
			continue
		}
		s, e := segment.Decode(b)
		answers(t, "a segment", e, api.OK)
		l = append(l, len(s.Keys()))
	}
	return l
}

// many is so many documents of these lengths each, by keys.
func many(n, key int, text string) []api.Doc {
	l := make([]api.Doc, n)
	for i := range l {
		number := strconv.Itoa(i)
		l[i] = doc(strings.Repeat("0", key-len(number))+number, text)
	}
	return l
}

func TestInstallOfSeveralSegments(t *testing.T) {
	full := strings.Repeat("ab", api.MaxText/2)
	for _, x := range []struct {
		what string
		docs []api.Doc
		want []int
	}{
		{"just one", many(15, 2, full), []int{15}},
		{"one more", many(16, 2, full), []int{15, 1}},
		{"two", many(30, 2, full), []int{15, 15}},
		{"several", many(62, 2, full), []int{15, 15, 15, 15, 2}},
		{"just as long as an index", append(many(15, 2, full), doc("z", full[:api.MaxText-17])), []int{16}},
		{"a byte longer than an index", append(many(15, 2, full), doc("z", full[:api.MaxText-16])), []int{15, 1}},
		{"one that is long behind one that is not", []api.Doc{doc("a", "short"), doc("b", full)}, []int{2}},
		{"short ones behind", append(many(16, 2, full), doc("y", ""), doc("z", "x")), []int{15, 3}},
		{"no bytes", many(api.MaxAll-1, 5, ""), []int{api.MaxAll - 1}},
		{"no bytes, one more", many(api.MaxAll, 5, ""), []int{api.MaxAll - 1, 1}},
		{"long keys", many(20000, api.MaxKey, ""), []int{15886, 4114}},
		{"long keys, just one", many(15886, api.MaxKey, ""), []int{15886}},
		{"long keys, one more", many(15887, api.MaxKey, ""), []int{15886, 1}},
		{"long keys, wide bytes", many(16000, api.MaxKey, "\xff\xfe"), []int{14978, 1022}},
	} {
		d := room(t, wide)
		s := open(t, x.what, d, "d")
		b := []byte(snapshotOf(talks(), x.docs...))
		saysAll(t, x.what, s, line{put(1, 1, "elder", "one"), okNew})
		answers(t, x.what, s.Flush(), api.OK)
		answers(t, x.what, s.Install(9, b), api.OK)
		parts(t, x.what, s, len(x.want), 0, 9)
		if got := split(t, &pair{d: d}); !slices.Equal(got, x.want) {
			t.Errorf("%s: segments of %v documents, want %v", x.what, got, x.want)
		}
		want := nums(9, len(x.want)+2, len(x.want))
		for n := range x.want { // the last one is the newest
			want += nums(len(x.want) + 1 - n)
		}
		loads(t, x.what, d, "d-list", want+sessionBytes(talks()))
		if n := len(d.List()); n != len(x.want)+1 {
			t.Errorf("%s: %d files", x.what, n)
		}
		if len(x.docs) < 100 {
			s = open(t, x.what, d, "d")
			if got := s.Snapshot(); string(got) != string(b) {
				t.Errorf("%s: Snapshot %s", x.what, short(string(got)))
			}
		}
	}
}

// Each segment takes as many as New does, and not one more.
func TestInstallFillsSegments(t *testing.T) {
	var docs []api.Doc
	for i := range 120 {
		docs = append(docs, doc(fmt.Sprintf("k%03d", i), text(i, muddle(i)%(api.MaxText+1))))
	}
	x := begin(t, wide)
	answers(t, "Install", x.s.Install(3, []byte(snapshotOf(nil, docs...))), api.OK)
	l := split(t, x)
	for i, n := range l {
		if _, e := segment.New(docs[:n]); e != api.OK {
			t.Errorf("segment %d: %v", i, e)
		}
		if n < len(docs) {
			if _, e := segment.New(docs[:n+1]); e != api.ErrLong {
				t.Errorf("segment %d takes one more: %v", i, e)
			}
		}
		docs = docs[n:]
	}
	if len(docs) != 0 || len(l) < 3 {
		t.Errorf("segments of %v", l)
	}
}

// badSnapshots is what is no Snapshot.
func badSnapshots() map[string]string {
	one := nums(1, 1) + row(okGone)
	all := snapshotOf(talks(), doc("a", "text"), doc("b", ""), doc("c", "\xff\x00"))
	l := map[string]string{
		"no byte":                           "",
		"a byte":                            "\x00",
		"a number with a last byte of 0":    "\x80\x00\x00",
		"something behind":                  all + "\x00",
		"much behind":                       all + all,
		"something ahead":                   "\x00" + all,
		"a client twice":                    nums(2) + one + one + nums(0),
		"a client twice, and one more":      nums(2) + one + one + nums(2, 1) + row(okGone) + nums(0),
		"clients that fall":                 nums(2, 2, 1) + row(okGone) + one + nums(0),
		"a client above":                    nums(1, most+1, 1) + row(okGone) + nums(0),
		"a seq above":                       nums(1, 1, most+1) + row(okGone) + nums(0),
		"a reply of no byte":                nums(1, 1, 1) + row("") + nums(0),
		"a reply that is none":              nums(1, 1, 1) + row("\x65\x00") + nums(0),
		"a reply with something behind":     nums(1, 1, 1) + row("\x00\x00\x00") + nums(0),
		"how many sessions, more":           nums(2) + one + nums(0),
		"how many sessions, less":           nums(0) + one + nums(0),
		"how many sessions, far more":       nums(1<<62) + one + nums(0),
		"how many documents, more":          nums(0, 2) + row("a") + row("text"),
		"how many documents, less":          nums(0, 0) + row("a") + row("text"),
		"how many documents, far more":      nums(0, 1<<62) + row("a") + row("text"),
		"how many documents, most":          nums(0, most) + row("a") + row("text"),
		"a key twice":                       nums(0, 2) + row("a") + row("text") + row("a") + row("text"),
		"a key twice, the longest":          nums(0, 2) + strings.Repeat(row(strings.Repeat("k", 64))+row(""), 2),
		"keys that fall":                    nums(0, 2) + row("b") + row("text") + row("a") + row("text"),
		"keys that fall behind":             nums(0, 3) + row("a") + row("") + row("c") + row("") + row("b") + row(""),
		"keys that fall by a byte above 7f": nums(0, 2) + row("\x80") + row("") + row("\x7f") + row(""),
		"a key that begins the one ahead":   nums(0, 2) + row("aa") + row("") + row("a") + row(""),
		"a key of no byte":                  nums(0, 1) + row("") + row("text"),
		"a key of no byte behind":           nums(0, 2) + row("a") + row("text") + row("") + row("text"),
		"a key too long":                    nums(0, 1) + row(strings.Repeat("k", 65)) + row("text"),
		"a text too long":                   nums(0, 1) + row("a") + row(strings.Repeat("x", api.MaxText+1)),
		"a text too long, the last":         nums(0, 2) + row("a") + row("") + row("b") + row(strings.Repeat("x", api.MaxText+1)),
		"a text longer than is left":        nums(0, 1) + row("a") + nums(5) + "text",
		"a text far longer":                 nums(0, 1) + row("a") + nums(1<<62) + "text",
		"a list":                            written{7, 1, nil, nil}.bytes(),
	}
	for n := range all {
		l["cut at "+strconv.Itoa(n)] = all[:n]
	}
	return l
}

func TestInstallOfNoSnapshot(t *testing.T) {
	x := installs(t)["a table"]
	was := files(x.d)
	for what, b := range badSnapshots() {
		for _, fuse := range []int{-1, 0} {
			x.fuse(fuse)
			for _, index := range []int{math.MinInt, 0, x.p.applied, x.p.applied + 1, math.MaxInt} {
				answers(t, what, x.s.Install(index, []byte(b)), api.ErrForm)
			}
		}
		x.fuse(-1)
		sameFiles(t, what, files(x.d), was)
	}
	answers(t, "nil", x.s.Install(1, nil), api.ErrForm)
	x.holds()
	s := open(t, "an empty one", room(t, wide), "d")
	for what, b := range badSnapshots() {
		answers(t, what, s.Install(7, []byte(b)), api.ErrForm)
		parts(t, what, s, 0, 0, 0)
	}
	if s.Applied() != 0 {
		t.Errorf("applied %d", s.Applied())
	}
}

// Bytes near a Snapshot: what is taken is just what Snapshot then makes.
func TestInstallOfAnyBytes(t *testing.T) {
	good := snapshotOf(map[int]last{1: {2, okNew}, 3: {4, errNone}}, doc("a", "text"), doc("bc", ""))
	s := open(t, "any bytes", room(t, wide), "d")
	tried := func(b string) {
		e := s.Install(7, []byte(b))
		if e == api.OK && string(s.Snapshot()) != b || e != api.OK && e != api.ErrForm {
			t.Errorf("%q: %v, Snapshot %q", b, e, s.Snapshot())
		}
	}
	for at := range good {
		for by := range 256 {
			tried(good[:at] + string([]byte{byte(by)}) + good[at+1:])
		}
		for _, by := range []string{"\x00", "\x01", "\x02", "\x80", "\xff", "a"} {
			tried(good[:at] + by + good[at:])
		}
		tried(good[:at] + good[at+1:])
	}
	for n := range 1 << 16 {
		tried(string([]byte{byte(n), byte(n >> 8)}))
	}
}

// The fuse burns at each place.
func TestInstallByFuses(t *testing.T) {
	full := strings.Repeat("xy", api.MaxText/2)
	for _, docs := range [][]api.Doc{nil, {doc("a", "text"), doc("k0", "another")}, many(33, 2, full)} {
		for what, x := range installs(t) {
			if len(docs) > 15 && what != "a table" {
				continue
			}
			pieces := (len(docs) + 14) / 15
			for fuse := 0; ; fuse++ {
				y := x.twin()
				if what == "a table" || what == "a table alone" {
					y.next(put(7, 3, "loose", "again"))
				}
				y.did("%s, %d documents", what, len(docs))
				was := y.p.copied()
				y.fuse(fuse)
				e := y.install(77, talks(), docs...)
				installedAt(t, y, was, e, fuse < 3*(pieces+1))
				y.has()
				if len(docs) < 15 || fuse%4 == 3 {
					y.holds()
					again(y)
				}
				if e == api.OK {
					if want := 3*(pieces+1) + len(was.pieces); fuse != want {
						t.Errorf("%s: Install of %d documents is %d steps, want %d", what, len(docs), fuse, want)
					}
					break
				}
			}
		}
	}
}

// installedAt tells of an Install that erred ahead of the list, or in it, and changed something, or that did not behind it.
func installedAt(t *testing.T, y *pair, was *plain, e api.Errno, ahead bool) {
	t.Helper()
	if e != api.OK && e != api.ErrDead || e == api.OK && ahead {
		t.Errorf("%s: %v", y.what(), e)
	}
	want, applied := y.p.snapshot(), 77
	if ahead {
		want, applied = was.snapshot(), was.applied
		parts(t, y.what(), y.s, len(was.pieces), len(was.table), was.wrote.applied)
	}
	if got := string(y.s.Snapshot()); got != want || y.s.Applied() != applied {
		t.Errorf("%s: %s at %d, want %s at %d", y.what(), short(got), y.s.Applied(), short(want), applied)
	}
}

func TestInstallWithoutRoom(t *testing.T) {
	for much := 0; ; much += 1 {
		x := begin(t, much)
		x.next(put(1, 1, "elder", "text"))
		x.flush()
		e := x.install(9, map[int]last{1: {7, okNew}}, doc("a", "text"), doc("b", "text"))
		x.holds()
		if e == api.OK {
			break
		}
		answers(t, "without room", e, api.ErrFull)
	}
}

// What many segments have is told as what one has; a Flush makes them one, if it can.
func TestInstallThenOps(t *testing.T) {
	x := begin(t, wide)
	full := strings.Repeat("ab", api.MaxText/2)
	answers(t, "Install", x.install(9, nil, many(70, 2, full)...), api.OK)
	parts(t, "Install", x.s, 5, 0, 9)
	x.holds()
	x.flush()
	parts(t, "they stay", x.s, 5, 0, 9)
	for i := range 66 {
		x.next(gone(1, i, fmt.Sprintf("%02d", i)))
	}
	x.flush()
	x.holds()
	if segments, _, _ := x.s.Parts(); segments > 4 {
		t.Errorf("%d segments, though they fit into one", segments)
	}
	s := open(t, "opened", x.d, "d")
	isAll(t, "opened", s, doc("66", full), doc("67", full), doc("68", full), doc("69", full))
}
