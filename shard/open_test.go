package shard_test

import (
	"bytes"
	"fmt"
	"maps"
	"slices"
	"strconv"
	"strings"
	"testing"

	"haystack/api"
	"haystack/disk"
	"haystack/keep"
	"haystack/shard"
)

// P14.1

// refused tells of anything answered by Open but an error.
func refused(t *testing.T, what string, d *disk.Disk, prefix string, want api.Errno) {
	t.Helper()
	if s, e := shard.Open(d, prefix); s != nil || e != want {
		t.Errorf("%s: Open: a shard: %t, %v, want %v", what, s != nil, e, want)
	}
}

// save saves a file that there must be.
func save(t *testing.T, d *disk.Disk, name, text string) {
	t.Helper()
	answers(t, "Save of "+name, keep.Save(d, name, []byte(text)), api.OK)
}

// encoded is a segment as bytes.
func encoded(t *testing.T, l told) string {
	t.Helper()
	s, e := l.made()
	answers(t, "a segment", e, api.OK)
	return string(s.Encode())
}

// some is what keys have, each by its key and its text, parted by a colon; without one the key is gone.
func some(l ...string) told {
	all := told{}
	for _, one := range l {
		key, text, has := strings.Cut(one, ":")
		all[key] = nil
		if has {
			all[key] = &text
		}
	}
	return all
}

// laid is a disk with a list and files of segments 1 to 4.
func laid(t *testing.T, list string) *disk.Disk {
	t.Helper()
	d := room(t, wide)
	for n := 1; n <= 4; n++ {
		save(t, d, "d-"+strconv.Itoa(n), encoded(t, pieceOf(n).told))
	}
	save(t, d, "d-list", list)
	return d
}

// pieceOf is one of four segments.
func pieceOf(n int) piece {
	return piece{n, []told{some("a:one", "b:one", "c:one", "e"), some("a:two two", "b:", "d:two"), some("a", "c", "d", "x"), some("a:four", "e:four")}[n-1]}
}

// opens tells of a list that Open does not take, or of a shard that is not what it says.
func opens(t *testing.T, what string, w written) {
	t.Helper()
	d := laid(t, w.bytes())
	x := &pair{t: t, d: d, p: empty(d.Copy(), "d"), done: []string{what}}
	x.p.wrote = w
	answers(t, what, x.reopen(), api.OK)
	x.holds()
	x.crash(0)
	x.holds()
	x.next(put(9, most, "f", "behind"))
	x.flush()
	x.holds()
}

func TestOpenOfWhatIsNotToBe(t *testing.T) {
	for _, n := range []int{0, 21, 22, 40, 61, 100, 1 << 12} {
		prefix := strings.Repeat("p", n)
		refused(t, "no disk", nil, prefix, api.ErrArg)
		d := room(t, wide)
		save(t, d, "-list", "none")
		save(t, d, "-1", "none")
		was := files(d)
		d.Fuse(0)
		refused(t, "a prefix of "+strconv.Itoa(n)+" bytes", d, prefix, api.ErrArg)
		d.Fuse(-1)
		sameFiles(t, prefix, files(d), was)
	}
	for _, prefix := range []string{"p", strings.Repeat("p", 20)} {
		refused(t, "no disk", nil, prefix, api.ErrArg)
	}
	refused(t, "few signs of many bytes", room(t, wide), strings.Repeat("ä", 11), api.ErrArg)
}

func TestOpenOfAnyPrefix(t *testing.T) {
	for _, prefix := range []string{"p", "\x00", "\xff", "-", "~", "p-", "p-1", "list", strings.Repeat("p", 19), strings.Repeat("p", 20), strings.Repeat("\xff", 20), strings.Repeat("ä", 10)} {
		d := room(t, wide)
		s := open(t, prefix, d, prefix)
		s.Apply(1, []byte(put(1, 1, "a", "text")))
		answers(t, prefix, s.Flush(), api.OK)
		if l := d.List(); !slices.Equal(l, []string{prefix + "-1", prefix + "-list"}) {
			t.Errorf("%q: %q", prefix, l)
		}
		s = open(t, prefix, d, prefix)
		if text, has := s.Get("a"); string(text) != "text" || !has || s.Applied() != 1 {
			t.Errorf("%q: %q %t %d", prefix, text, has, s.Applied())
		}
	}
}

func TestOpenWithoutAList(t *testing.T) {
	for _, much := range []int{0, wide} {
		d := room(t, much)
		d.Fuse(0) // nothing is to be taken away
		s := open(t, "an empty disk", d, "d")
		segments, loose, sure := s.Parts()
		if s.Applied() != 0 || segments != 0 || loose != 0 || sure != 0 || string(s.Snapshot()) != "\x00\x00" {
			t.Errorf("applied %d, Parts %d %d %d, Snapshot %x", s.Applied(), segments, loose, sure, s.Snapshot())
		}
		if _, has := s.Get("a"); has {
			t.Error("a document")
		}
		if l, e := s.Find([]byte("a")); len(l) != 0 || e != api.OK {
			t.Errorf("Find: %v %v", l, e)
		}
		if len(d.List()) != 0 {
			t.Errorf("files %q", d.List())
		}
	}
}

func TestOpenWithAList(t *testing.T) {
	session := map[int]last{0: {0, "\x00\x00"}, 1: {7, "\x00\x01\x01"}, 300: {most, "\x07\x00"}, most: {3, "\x64\x08\x01\x02\x03\x04\x05\x06\x07\xac\x02"}}
	for i, w := range []written{
		{0, 1, nil, nil},
		{7, 1, nil, nil},
		{7, 5, nil, session},
		{7, 5, []piece{pieceOf(4)}, session},
		{7, 2, []piece{pieceOf(1)}, nil},
		{7, 5, []piece{pieceOf(2), pieceOf(1)}, session},
		{7, 5, []piece{pieceOf(1), pieceOf(2)}, session}, // the first one is the newest
		{7, 5, []piece{pieceOf(4), pieceOf(3), pieceOf(2), pieceOf(1)}, session},
		{7, 5, []piece{pieceOf(3), pieceOf(4), pieceOf(1), pieceOf(2)}, session},
		{most - 1, most - 3, []piece{pieceOf(4), pieceOf(1)}, session}, // the op that opens does makes it just most
		{0, 9, []piece{pieceOf(4)}, nil},
	} {
		opens(t, "list "+strconv.Itoa(i), w)
	}
}

func TestOpenOfGreatNumbers(t *testing.T) {
	w := written{most, most, []piece{pieceOf(2)}, map[int]last{most: {most, "\x00\x00"}}}
	d := laid(t, w.bytes())
	s := open(t, "the greatest", d, "d")
	if _, _, sure := s.Parts(); s.Applied() != most || sure != most {
		t.Errorf("applied %d, sure %d", s.Applied(), sure)
	}
	if got := string(s.Snapshot()); got != snapshotOf(w.sessions, doc("a", "two two"), doc("b", ""), doc("d", "two")) {
		t.Errorf("Snapshot %s", short(got))
	}
	save(t, d, "d-"+strconv.Itoa(most-1), encoded(t, some("z:last")))
	save(t, d, "d-list", written{1, most, []piece{{most - 1, nil}}, nil}.bytes())
	s = open(t, "the greatest", d, "d")
	if text, has := s.Get("z"); string(text) != "last" || !has {
		t.Errorf("Get: %q %t", text, has)
	}
}

// badLists is what is no list, though the files of segments 1 to 4 are there.
func badLists() map[string]string {
	one := nums(1, 1) + row("\x00\x00")
	all := written{7, 5, []piece{pieceOf(2), pieceOf(1)}, map[int]last{1: {7, "\x00\x01\x01"}, 300: {2, "\x07\x00"}}}.bytes()
	l := map[string]string{
		"no byte":                          "",
		"the N's end is no number":         nums(7, 5, 1) + "\x81\x00" + nums(0),
		"applied is no number":             "\x87\x00" + nums(5, 0, 0),
		"an N that is the next one":        nums(7, 4, 1, 4, 0),
		"an N above the next one":          nums(7, 3, 1, 4, 0),
		"one N of two not below":           nums(7, 3, 2, 1, 3, 0),
		"one N of two not below, first":    nums(7, 3, 2, 3, 1, 0),
		"an N twice":                       nums(7, 5, 2, 1, 1, 0),
		"an N twice, apart":                nums(7, 5, 3, 2, 1, 2, 0),
		"an N of 0":                        nums(7, 5, 1, 0, 0),
		"the next one is 0":                nums(7, 0, 0, 0),
		"the next one is 0, with an N":     nums(7, 0, 1, 1, 0),
		"a client twice":                   nums(7, 5, 0, 2) + one + one,
		"a client twice, 0":                nums(7, 5, 0, 2) + strings.Repeat(nums(0, 1)+row("\x00\x00"), 2),
		"a client twice, and one more":     nums(7, 5, 0, 2) + one + one + nums(2, 1) + row("\x00\x00"),
		"clients that fall":                nums(7, 5, 0, 2, 2, 1) + row("\x00\x00") + one,
		"clients that fall behind":         nums(7, 5, 0, 3) + one + nums(5, 1) + row("\x00\x00") + nums(4, 1) + row("\x00\x00"),
		"applied is above":                 nums(most+1, 5, 0, 0),
		"applied is the greatest number":   nums(1<<62, 5, 0, 0),
		"the next one is above":            nums(7, most+1, 0, 0),
		"the next one is the greatest":     nums(7, 1<<62, 0, 0),
		"both are above":                   nums(most+1, most+2, 1, most+1, 0),
		"how many segments, above":         nums(7, 5, most+1, 0),
		"how many segments, the greatest":  nums(7, 5, 1<<62, 0),
		"how many segments, more":          nums(7, 5, 2, 1, 0),
		"how many segments, less":          nums(7, 5, 1, 2, 1, 0),
		"how many sessions, above":         nums(7, 5, 0, most+1) + one,
		"how many sessions, the greatest":  nums(7, 5, 0, 1<<62) + one,
		"how many sessions, more":          nums(7, 5, 0, 2) + one,
		"how many sessions, less":          nums(7, 5, 0, 0) + one,
		"a client above":                   nums(7, 5, 0, 1, most+1, 1) + row("\x00\x00"),
		"a seq above":                      nums(7, 5, 0, 1, 1, most+1) + row("\x00\x00"),
		"a seq above, the last of several": nums(7, 5, 0, 2) + one + nums(2, most+1) + row("\x00\x00"),
		"a reply of no byte":               nums(7, 5, 0, 1, 1, 1) + row(""),
		"a reply cut short":                nums(7, 5, 0, 1, 1, 1) + row("\x00\x01"),
		"a reply with something behind":    nums(7, 5, 0, 1, 1, 1) + row("\x00\x00\x00"),
		"a reply of no error":              nums(7, 5, 0, 1, 1, 1) + row("\x65\x00"),
		"a reply of nine numbers":          nums(7, 5, 0, 1, 1, 1) + row("\x00\x09"+strings.Repeat("\x00", 9)),
		"a reply longer than is left":      nums(7, 5, 0, 1, 1, 1, 3) + "\x00\x00",
		"a reply far longer":               nums(7, 5, 0, 1, 1, 1, 1<<62) + "\x00\x00",
		"something behind":                 all + "\x00",
		"much behind":                      all + all,
		"something ahead":                  "\x00" + all,
	}
	for n := range all {
		l["cut at "+strconv.Itoa(n)] = all[:n]
	}
	return l
}

func TestOpenOfNoList(t *testing.T) {
	for what, b := range badLists() {
		d := laid(t, b)
		was := files(d)
		refused(t, what, d, "d", api.ErrForm)
		sameFiles(t, what, files(d), was) // nothing is taken away
		d.Fuse(0)
		refused(t, what+", dead", d, "d", api.ErrForm)
	}
}

// N's are from 1 on, though there be a file.
func TestOpenOfNoN(t *testing.T) {
	d := laid(t, nums(7, 5, 1, 0, 0))
	save(t, d, "d-0", encoded(t, some("a:text")))
	refused(t, "an N of 0", d, "d", api.ErrForm)
	save(t, d, "d-5", encoded(t, some("a:text")))
	save(t, d, "d-list", nums(7, 5, 1, 5, 0))
	refused(t, "an N that comes next", d, "d", api.ErrForm)
	save(t, d, "d-list", nums(7, 6, 1, 5, 0))
	open(t, "an N that is below", d, "d")
}

// A list that is not just one record is none.
func TestOpenOfNoRecord(t *testing.T) {
	list := written{7, 5, []piece{pieceOf(2), pieceOf(1)}, map[int]last{1: {7, "\x00\x01\x01"}}}.bytes()
	d := laid(t, list)
	b, _ := d.Read("d-list")
	none := func(what string, b []byte) {
		d := d.Copy()
		answers(t, what, d.Remove("d-list"), api.OK)
		answers(t, what, d.Append("d-list", b), api.OK)
		refused(t, what, d, "d", api.ErrForm)
	}
	for n := range b {
		none("cut at "+strconv.Itoa(n), b[:n])
		other := bytes.Clone(b)
		other[n] ^= 0x11
		none("another byte at "+strconv.Itoa(n), other)
	}
	none("a byte behind", append(bytes.Clone(b), 0))
	none("twice", append(bytes.Clone(b), b...))
	none("without a record", []byte(list))
	open(t, "as it is", d, "d")
}

func TestOpenWithoutASegment(t *testing.T) {
	list := written{7, 5, []piece{pieceOf(4), pieceOf(2), pieceOf(1)}, nil}.bytes()
	good := encoded(t, pieceOf(2).told)
	for n := 1; n <= 4; n++ {
		name := "d-" + strconv.Itoa(n)
		refusedIf := func(what string, d *disk.Disk) {
			t.Helper()
			if n == 3 { // this one is not on the list
				open(t, what, d, "d")
				return
			}
			was := files(d)
			refused(t, what, d, "d", api.ErrForm)
			sameFiles(t, what, files(d), was)
		}
		d := laid(t, list)
		answers(t, name, d.Remove(name), api.OK)
		refusedIf("without "+name, d)
		d = laid(t, list)
		answers(t, name, d.Rename(name, name+"~"), api.OK)
		refusedIf("half of "+name, d)
		for _, other := range []string{"", "x", good[:len(good)-1], good + "\x00", good + good, good[1:], good[8 : len(good)-4], strings.Replace(good, "two", "TWO", 1)} {
			if other == good {
				continue
			}
			d = laid(t, list)
			save(t, d, name, other)
			refusedIf(fmt.Sprintf("%s is %s", name, short(other)), d)
		}
		d = laid(t, list)
		b, _ := d.Read(name)
		answers(t, name, d.Truncate(name, len(b)-1), api.OK)
		refusedIf("a part of "+name, d)
		d = laid(t, list)
		answers(t, name, d.Append(name, []byte{0}), api.OK)
		refusedIf("more than "+name, d)
		d = laid(t, list)
		answers(t, name, d.Remove(name), api.OK)
		answers(t, name, d.Append(name, []byte(good)), api.OK) // its Encode is a record, but one of a segment
		refusedIf("without a record around "+name, d)
	}
}

func TestOpenClears(t *testing.T) {
	others := []string{"d", "d~", "D-1", "dd-1", "e-1", "e-list", "-1", "-list", "~"}
	extra := []string{"d-", "d-1~", "d-2~", "d-01", "d-10", "d-3", "d-4", "d-4~", "d-5", "d-list~", "d-lis", "d-lists", "d-x", "d--1", "d-1-list"}
	for i, list := range []string{"", written{7, 5, []piece{pieceOf(2), pieceOf(1)}, nil}.bytes(), written{7, 5, nil, nil}.bytes()} {
		stay := [][]string{nil, {"d-1", "d-2", "d-list"}, {"d-list"}}[i]
		d := laid(t, list)
		if list == "" {
			answers(t, "Remove", d.Remove("d-list"), api.OK)
		}
		for _, name := range append(others, extra...) {
			answers(t, name, d.Append(name, []byte("some")), api.OK)
		}
		was := files(d)
		gone := slices.DeleteFunc(d.List(), func(name string) bool {
			return !strings.HasPrefix(name, "d-") || slices.Contains(stay, name)
		})
		for fuse := range len(gone) + 2 {
			what := fmt.Sprintf("list %d, Fuse(%d)", i, fuse)
			c := d.Copy()
			c.Fuse(fuse)
			if fuse < len(gone) {
				refused(t, what, c, "d", api.ErrDead)
			} else {
				open(t, what, c, "d")
			}
			want := maps.Clone(was)
			for _, name := range gone[:min(fuse, len(gone))] {
				delete(want, name)
			}
			c.Fuse(-1)
			same := files(c)
			if !slices.Equal(slices.Sorted(maps.Keys(same)), slices.Sorted(maps.Keys(want))) {
				t.Errorf("%s: files %q, want %q", what, slices.Sorted(maps.Keys(same)), slices.Sorted(maps.Keys(want)))
			}
			open(t, what+", again", c, "d")
		}
	}
}
