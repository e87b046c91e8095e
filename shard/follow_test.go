package shard_test

import (
	"fmt"
	"maps"
	"math"
	"slices"
	"strconv"
	"strings"
	"testing"

	"haystack/api"
	"haystack/disk"
	"haystack/shard"
)

// P14.7

// dice is draws that are always the same.
type dice struct{ x uint32 }

func (o *dice) draw(n int) int {
	o.x = o.x*1664525 + 1013904223
	return int(o.x>>8) % n
}

// op is one of any kind: few keys and clients, numbers that come again or are past.
func (o *dice) op(seqs []int) string {
	client := o.draw(len(seqs))
	seq := seqs[client]
	switch o.draw(9) {
	case 0: // once more
	case 1:
		seq = max(0, seq-1-o.draw(3))
	default:
		seq += 1 + o.draw(3)
	}
	seqs[client] = max(seq, seqs[client])
	key := "k" + strconv.Itoa(o.draw(14))
	switch o.draw(12) {
	case 0:
		return "no op"
	case 1, 2, 3:
		return gone(client, seq, key)
	}
	return put(client, seq, key, text(o.draw(5), o.draw(30)))
}

// Scripts of all there is, against the plain shard and its disk.
func TestScripts(t *testing.T) {
	for script := range 250 {
		o := &dice{uint32(script)}
		x := begin(t, []int{wide, 400 + o.draw(600)}[script%2])
		seqs := make([]int, 4)
		var snapshots []*plain
		for range 60 {
			switch o.draw(14) {
			case 0:
				x.fuse(o.draw(20) - 1)
			case 1:
				x.crash(o.draw(50) - 1)
			case 2, 3:
				x.flush()
			case 4:
				x.skip(x.p.applied + o.draw(3))
			case 5:
				snapshots = append(snapshots, x.p.copied())
			case 6:
				if len(snapshots) > 0 {
					p := snapshots[o.draw(len(snapshots))]
					x.install(p.applied+o.draw(9), p.sessions, p.docs()...)
				}
			case 7:
				x.apply(x.p.applied+o.draw(4)-1, o.op(seqs))
			default:
				x.next(o.op(seqs))
			}
			for x.s == nil { // the fuse burnt within Open
				x.fuse(-1)
				x.reopen()
			}
			x.holds()
		}
	}
}

// state is what a plain map and plain sessions say.
type state struct {
	docs     map[string]string
	sessions map[int]last
}

// done is the state behind an op, and what is said of it; was stays.
func done(was state, data string) (state, string) {
	p := empty(nil, "")
	p.sessions = maps.Clone(was.sessions)
	for key, text := range was.docs {
		p.table[key] = &text
	}
	said := p.do(data)
	is := state{map[string]string{}, p.sessions}
	for _, one := range p.docs() {
		is.docs[one.Key] = string(one.Text)
	}
	return is, said
}

// snapshot is the Snapshot of a state.
func (s state) snapshot() string {
	var docs []api.Doc
	for _, key := range slices.Sorted(maps.Keys(s.docs)) {
		docs = append(docs, doc(key, s.docs[key]))
	}
	return snapshotOf(s.sessions, docs...)
}

// course is ops, what is said of each, and the Snapshots ahead of the first and behind each.
type course struct {
	ops, said, snapshots []string
}

// courseOf is so many ops.
func courseOf(by uint32, n int) course {
	o, seqs := &dice{by}, make([]int, 4)
	now := state{map[string]string{}, map[int]last{}}
	c := course{snapshots: []string{now.snapshot()}}
	for range n {
		data := o.op(seqs)
		var said string
		now, said = done(now, data)
		c.ops, c.said, c.snapshots = append(c.ops, data), append(c.said, said), append(c.snapshots, now.snapshot())
	}
	return c
}

// goes does ops from where a shard is up to a number, and tells of one that goes another way.
func (c course) goes(t *testing.T, what string, s *shard.Shard, to int) {
	t.Helper()
	for s.Applied() < to {
		n := s.Applied()
		if got := string(s.Apply(n+1, []byte(c.ops[n]))); got != c.said[n] {
			t.Fatalf("%s: op %d: %x, want %x", what, n+1, got, c.said[n])
		}
		c.is(t, what, s, n+1)
	}
}

// is tells of a shard that is not what it is to be behind an op.
func (c course) is(t *testing.T, what string, s *shard.Shard, n int) {
	t.Helper()
	if got := string(s.Snapshot()); got != c.snapshots[n] || s.Applied() != n {
		t.Fatalf("%s: %s at %d, want %s at %d", what, short(got), s.Applied(), short(c.snapshots[n]), n)
	}
}

// Wherever the fuse burns, and whenever the crash comes: what is there is what was at sure, and the same ops make the same.
func TestCrashes(t *testing.T) {
	const ops = 70
	for by := range 4 {
		c := courseOf(uint32(by), ops)
		for fuse := range 70 {
			d := room(t, wide)
			s := open(t, "crashes", d, "d")
			d.Fuse(fuse)
			for to := 1; to <= ops; to++ {
				c.goes(t, fmt.Sprintf("course %d, Fuse(%d)", by, fuse), s, to)
				if to%7 != fuse%7 && to < ops {
					continue
				}
				_, _, sure := s.Parts()
				what := fmt.Sprintf("course %d, Fuse(%d), Crash behind %d, sure %d", by, fuse, to, sure)
				copied := d.Copy()
				copied.Crash(fuse * to)
				after := open(t, what, copied, "d")
				c.is(t, what, after, sure)
				parts(t, what, after, len(copied.List())-min(1, len(copied.List())), 0, sure)
				if to%14 == fuse%14 || to == ops {
					c.goes(t, what, after, ops)
				}
			}
		}
	}
}

// The fuse burns within the list's Save: what is there is what was at sure, or at applied by then.
func TestCrashesInTheList(t *testing.T) {
	c := courseOf(9, 40)
	for fuse := range 30 {
		for draw := range 40 {
			d := room(t, wide)
			s := open(t, "in the list", d, "d")
			c.goes(t, "in the list", s, 30)
			_, _, sure := s.Parts()
			d.Fuse(fuse)
			e := s.Flush()
			if e == api.OK {
				sure = 30
			}
			d.Crash(draw)
			s = open(t, "in the list", d, "d")
			if s.Applied() != sure && s.Applied() != 30 {
				t.Fatalf("Fuse(%d), Crash(%d): applied %d, want %d or 30", fuse, draw, s.Applied(), sure)
			}
			c.is(t, "in the list", s, s.Applied())
			c.goes(t, "in the list", s, 40)
		}
	}
}

// A crash within Open, and crashes one behind the other.
func TestCrashesInOpen(t *testing.T) {
	c := courseOf(11, 60)
	for fuse := range 25 {
		d := room(t, wide)
		s := open(t, "Open", d, "d")
		c.goes(t, "Open", s, 45)
		d.Fuse(fuse)
		c.goes(t, "Open", s, 60)
		d.Crash(1)
		_, _, sure := s.Parts()
		for n := range 4 {
			d.Fuse(n)
			if s, e := shard.Open(d, "d"); e == api.OK {
				c.is(t, "Open", s, sure)
			} else if s != nil || e != api.ErrDead {
				t.Errorf("Open: a shard: %t, %v", s != nil, e)
			}
			d.Crash(n)
		}
		s = open(t, "Open", d, "d")
		c.is(t, "Open", s, sure)
		c.goes(t, "Open", s, 60)
	}
}

// What is answered depends on what was done alone; so does what stands on the disk.
func TestTwins(t *testing.T) {
	c := courseOf(5, 200)
	one, two := room(t, wide), room(t, wide)
	s, other := open(t, "twins", one, "d"), open(t, "twins", two, "d")
	for n := range c.ops {
		c.goes(t, "twins", s, n+1)
		c.goes(t, "twins", other, n+1)
		for _, pattern := range []string{"a", "b", "\xff", "ab", "ba"} {
			l, _ := s.Find([]byte(pattern))
			if m, _ := other.Find([]byte(pattern)); !slices.Equal(l, m) {
				t.Fatalf("Find of %q: %v, %v", pattern, l, m)
			}
		}
		sameFiles(t, "twins", files(one), files(two))
	}
}

// Shards on one disk do not touch each other's files.
func TestNeighbours(t *testing.T) {
	d := room(t, wide)
	prefixes := []string{"d1", "d", "d11", "e"}
	c := courseOf(6, 60)
	for to := 5; to <= 60; to += 5 {
		for _, prefix := range prefixes {
			s := open(t, prefix, d, prefix)
			c.goes(t, prefix, s, to)
			answers(t, prefix, s.Flush(), api.OK)
		}
		for _, prefix := range prefixes {
			c.is(t, prefix, open(t, prefix, d, prefix), to)
		}
	}
}

// P14.8

// roomy is a row with spare room behind its end.
func roomy(text string) []byte {
	return append([]byte(text), "behind the end of it"...)[:len(text)]
}

// spoil changes a row and the spare room behind its end.
func spoil(b []byte) {
	b = b[:cap(b)]
	for i := range b {
		b[i] ^= 0xff
	}
}

// same tells of a row that was changed, or whose spare room was; then it is spoilt.
func same(t *testing.T, what string, b []byte, text string) {
	t.Helper()
	if got := string(b[:len(b)+20]); got != text+"behind the end of it" {
		t.Errorf("%s: %s is changed to %s", what, short(text), short(got))
	}
	spoil(b)
}

func TestWhatIsHandedIn(t *testing.T) {
	x := begin(t, wide)
	for i, data := range []string{put(1, 1, "a", "text"), put(1, 2, "bb", "text of bb"), gone(1, 3, "a"), "no op", put(1, 2, "c", "old"), put(1, 3, "d", "once more"), put(300, most, "e", text(1, 300))} {
		b := roomy(data)
		x.did("Apply of %s", short(data))
		if got, want := x.s.Apply(i+1, b), x.p.apply(i+1, data); string(got) != want {
			t.Errorf("%s: %x, want %x", x.what(), got, want)
		}
		same(t, "data", b, data)
		x.holds()
		b = roomy(data)
		x.s.Apply(i+1, b) // not the right number
		same(t, "data", b, data)
	}
	for _, pattern := range []string{"t", "text", "", text(1, 64), strings.Repeat("x", 65)} {
		b := roomy(pattern)
		l, _ := x.s.Find(b)
		same(t, "a pattern", b, pattern)
		if len(pattern) < 5 && pattern != "" && !slices.Equal(l, x.p.find(pattern)) {
			t.Errorf("Find of %q: %v", pattern, l)
		}
	}
	x.flush()
	x.holds()
	for _, b := range badSnapshots() {
		p := roomy(b)
		answers(t, "no Snapshot", x.s.Install(7, p), api.ErrForm)
		same(t, "no Snapshot", p, b)
	}
	x.holds()
	sessions, docs := talks(), []api.Doc{doc("a", "text"), doc("b", text(2, 500))}
	p := roomy(snapshotOf(sessions, docs...))
	answers(t, "Install", x.s.Install(9, p), api.OK)
	same(t, "a Snapshot", p, snapshotOf(sessions, docs...))
	answers(t, "Install", x.p.install(9, sessions, docs...), api.OK)
	x.holds()
	x.next(put(1, most, "once", "more"))
	x.flush()
	x.crash(0)
	x.holds()
}

func TestWhatIsAnswered(t *testing.T) {
	x := begin(t, wide)
	for i := range 13 { // in the table, and in a segment
		data := put(i%3, i/3, "k"+strconv.Itoa(i%10), text(i, 40))
		for range 3 { // the last one's reply is told again
			index := x.p.applied + 1
			said := x.s.Apply(index, []byte(data))
			if want := x.p.apply(index, data); string(said) != want {
				t.Errorf("%x, want %x", said, want)
			}
			spoil(said)
		}
		for range 2 {
			for n := range 10 {
				one, _ := x.s.Get("k" + strconv.Itoa(n))
				spoil(one)
			}
			spoil(x.s.Snapshot())
			l, _ := x.s.Find([]byte("a"))
			clear(l[:cap(l)])
		}
		x.holds()
	}
	one, _ := x.s.Get("k5")
	l, _ := x.s.Find([]byte("a"))
	snapshot := x.s.Snapshot()
	was, wasL, wasS := string(one), slices.Clone(l), string(snapshot)
	x.next(put(9, 1, "k5", "another"))
	x.flush()
	x.install(3, nil)
	x.next(put(9, 1, "k5", "another"))
	if string(one) != was || !slices.Equal(l, wasL) || string(snapshot) != wasS {
		t.Error("what was answered is changed by what came behind")
	}
}

// nothing tells of a shard that is none, and answers more than nothing.
func nothing(t *testing.T, s *shard.Shard) {
	t.Helper()
	for _, index := range []int{math.MinInt, -1, 0, 1, 2, math.MaxInt} {
		if said := s.Apply(index, []byte(put(1, 1, "a", "text"))); len(said) != 0 {
			t.Errorf("Apply: %x", said)
		}
		s.Skip(index)
		for _, p := range []string{"", "\x00\x00", snapshotOf(talks(), doc("a", "text"))} {
			answers(t, "Install", s.Install(index, []byte(p)), api.ErrArg)
		}
		answers(t, "Flush", s.Flush(), api.ErrArg)
	}
	text, has := s.Get("a")
	segments, loose, sure := s.Parts()
	if s.Applied() != 0 || len(text) != 0 || has || len(s.Snapshot()) != 0 || segments != 0 || loose != 0 || sure != 0 {
		t.Errorf("applied %d, Get %q %t, Snapshot %x, Parts %d %d %d", s.Applied(), text, has, s.Snapshot(), segments, loose, sure)
	}
	for _, p := range []string{"", "a", strings.Repeat("a", 64), strings.Repeat("a", 65)} {
		if l, e := s.Find([]byte(p)); len(l) != 0 || e != api.ErrPattern {
			t.Errorf("Find of %q: %v %v", p, l, e)
		}
	}
}

func TestNoShard(t *testing.T) {
	nothing(t, nil)
	nothing(t, new(shard.Shard)) // one that Open did not make has no disk
}

// Behind a crash a shard is used no more; it does not panic, either, nor over a disk that New did not make.
func TestBehindACrash(t *testing.T) {
	for fuse := range 12 {
		d := room(t, wide)
		s := open(t, "a crash", d, "d")
		c := courseOf(3, 60)
		c.goes(t, "a crash", s, 30)
		d.Fuse(fuse)
		s.Flush()
		d.Crash(fuse)
		d.Remove(d.List()...)
		for n := 30; n < 60; n++ {
			s.Apply(n+1, []byte(c.ops[n]))
			s.Find([]byte("a"))
			s.Flush()
		}
		s.Install(7, s.Snapshot())
	}
	s := open(t, "no room", new(disk.Disk), "d")
	saysAll(t, "no room", s, line{put(1, 1, "a", "text"), okNew})
	answers(t, "no room", s.Flush(), api.ErrFull)
	parts(t, "no room", s, 0, 1, 0)
}
