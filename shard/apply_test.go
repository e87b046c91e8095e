package shard_test

import (
	"fmt"
	"math"
	"slices"
	"strconv"
	"strings"
	"testing"

	"haystack/api"
	"haystack/shard"
)

// P14.2

// line is an op, and the bytes of what is to be said of it.
type line struct{ op, said string }

// What is said, by the chapter's table.
const (
	okNew   = "\x00\x01\x00" // OK, Nums 0
	okHad   = "\x00\x01\x01" // OK, Nums 1
	okGone  = "\x00\x00"     // OK
	errForm = "\x03\x00"
	errNone = "\x07\x00"
	errOld  = "\x0d\x00"
)

// saysAll tells of lines of which something else is said, one behind the other.
func saysAll(t *testing.T, what string, s *shard.Shard, lines ...line) {
	t.Helper()
	for i, one := range lines {
		index := s.Applied() + 1
		if got := string(s.Apply(index, []byte(one.op))); got != one.said {
			t.Errorf("%s: line %d, %s: %x, want %x", what, i, short(one.op), got, one.said)
		}
		if s.Applied() != index {
			t.Errorf("%s: line %d: applied %d, want %d", what, i, s.Applied(), index)
		}
	}
}

// isAll tells of a shard that has not just these documents.
func isAll(t *testing.T, what string, s *shard.Shard, want ...api.Doc) {
	t.Helper()
	got := string(s.Snapshot())
	if !strings.HasSuffix(got, strings.TrimPrefix(snapshotOf(nil, want...), "\x00")) {
		t.Errorf("%s: Snapshot %s, want the documents %q", what, short(got), want)
	}
	for _, one := range want {
		if text, has := s.Get(one.Key); string(text) != string(one.Text) || !has {
			t.Errorf("%s: Get of %q: %q %t, want %q", what, one.Key, text, has, one.Text)
		}
	}
}

func TestReplies(t *testing.T) {
	long, full := strings.Repeat("k", api.MaxKey), strings.Repeat("x", api.MaxText)
	s := open(t, "replies", room(t, wide), "d")
	saysAll(t, "replies", s,
		line{put(1, 1, "a", "xyx"), okNew},
		line{put(1, 2, "a", "xyx"), okHad},
		line{put(1, 3, "a", ""), okHad}, // a text of no byte is one
		line{put(1, 4, "a", "x"), okHad},
		line{gone(1, 5, "a"), okGone},
		line{gone(1, 6, "a"), errNone},
		line{put(1, 7, "a", "again"), okNew},
		line{gone(1, 8, "b"), errNone},
		line{put(1, 9, "b", ""), okNew},
		line{gone(1, 10, "b"), okGone},
		line{put(0, 0, long, full), okNew},
		line{put(most, most, "\x00", "\x00\xff"), okNew},
		line{put(2, 0, "a", "more"), okHad},
	)
	isAll(t, "replies", s, doc("\x00", "\x00\xff"), doc("a", "more"), doc(long, full))
	if _, loose, _ := s.Parts(); loose != 4 {
		t.Errorf("the table knows %d keys, want 4: what had no text is not known to be gone", loose)
	}
}

func TestRepliesOverSegments(t *testing.T) {
	for flushes := range 8 { // behind which of the steps there is a Flush, digit by digit
		s := open(t, "segments", room(t, wide), "d")
		what := fmt.Sprintf("flushes %03b", flushes)
		for i, l := range [][]line{
			{{put(1, 1, "a", "1"), okNew}, {put(1, 2, "b", "1"), okNew}, {put(1, 3, "c", "1"), okNew}},
			{{gone(1, 4, "a"), okGone}, {put(1, 5, "b", "2"), okHad}},
			{{gone(1, 6, "a"), errNone}, {gone(1, 7, "b"), okGone}, {gone(1, 8, "b"), errNone}, {put(1, 9, "a", "3"), okNew}, {put(1, 10, "c", "3"), okHad}},
			{{put(1, 11, "a", "4"), okHad}, {put(1, 12, "b", "4"), okNew}, {gone(1, 13, "c"), okGone}, {gone(1, 14, "d"), errNone}},
		} {
			saysAll(t, what+", step "+strconv.Itoa(i), s, l...)
			if flushes>>i&1 == 1 {
				answers(t, what, s.Flush(), api.OK)
			}
		}
		isAll(t, what, s, doc("a", "4"), doc("b", "4"))
	}
}

// otherIndexes is numbers that are not applied and 1.
func otherIndexes(applied int) []int {
	l := []int{math.MinInt, math.MinInt + 1, -1, 0, 1, 2, 3, applied - 1, applied, applied + 2, applied + 3, most, 1 << 62, math.MaxInt - 1, math.MaxInt}
	return slices.DeleteFunc(l, func(n int) bool { return n == applied+1 })
}

func TestApplyOfOtherNumbers(t *testing.T) {
	x := begin(t, wide)
	for round := range 6 {
		for _, index := range otherIndexes(x.p.applied) {
			for _, data := range []string{put(1, 100, "a", "other"), gone(1, 100, "a"), put(7, 1, "n", "other"), "", "no op", put(1, 1, "a", "once more")} {
				x.apply(index, data)
			}
			x.skip(index)
		}
		x.holds()
		switch round {
		case 0, 3:
			x.next(put(1, 1+round, "a", "text"))
		case 1:
			x.flush()
		case 2:
			x.skip(x.p.applied + 1)
		case 4:
			x.crash(0)
		}
	}
}

func TestApplyBehindTheGreatestNumber(t *testing.T) {
	for _, index := range []int{math.MinInt, -7, -1, 0, math.MaxInt - 1, math.MaxInt} {
		s := open(t, "the greatest", room(t, wide), "d")
		answers(t, "Install", s.Install(index, []byte("\x00\x00")), api.OK)
		for _, other := range []int{math.MinInt, 1, index, index + 2} { // index + 1 and + 2 may be below index
			if other > index && other-1 == index {
				continue
			}
			s.Skip(other)
			if said := s.Apply(other, []byte(put(1, 1, "a", ""))); len(said) != 0 || s.Applied() != index {
				t.Errorf("behind %d, Apply(%d): %x, applied %d", index, other, said, s.Applied())
			}
		}
		if index < math.MaxInt {
			saysAll(t, "behind "+strconv.Itoa(index), s, line{put(1, 1, "a", ""), okNew})
		}
	}
}

// badOps is what is no op.
func badOps() []string {
	good := put(1, 5, "k", "text")
	return []string{
		"", "x", good + "\x00", good[1:], "\x00" + good[1:], "\x03" + good[1:], good[:len(good)-1], good + good,
		nums(1, most+1, 1) + row("k") + row(""), nums(1, 1, most+1) + row("k") + row(""), nums(1, 1, 1) + row("") + row("text"),
		put(1, 5, strings.Repeat("k", 65), ""), put(1, 5, "k", strings.Repeat("x", api.MaxText+1)), nums(2, 1, 5) + row("k") + row("x"),
		strings.Repeat("\xff", 100), strings.Repeat("\x00", 1<<17),
	}
}

func TestApplyOfNoOp(t *testing.T) {
	x := begin(t, wide)
	x.next(put(1, 4, "k", "old"))
	for i, b := range badOps() {
		x.next(b)
		if said := string(x.s.Apply(x.p.applied+1, []byte(b))); said != errForm || x.s.Applied() != x.p.applied+1 {
			t.Errorf("no op %d: %x, applied %d, want %d", i, said, x.s.Applied(), x.p.applied+1)
		}
		x.p.applied++
		x.holds()
	}
	x.next(put(1, 5, "k", "new")) // its number was not used
	x.holds()
}

func TestSessions(t *testing.T) {
	steps := [][]line{
		{{put(1, 5, "a", "1"), okNew}, {put(2, 5, "a", "2"), okHad}, {gone(3, 5, "b"), errNone}, {gone(4, 0, "a"), okGone}, {put(0, 3, "a", "3"), okNew}},
		// once more: what was said, and nothing is done
		{{put(1, 5, "a", "1"), okNew}, {put(2, 5, "a", "2"), okHad}, {gone(3, 5, "b"), errNone}, {gone(4, 0, "a"), okGone}, {put(0, 3, "a", "3"), okNew}},
		// another op of that number
		{{gone(1, 5, "a"), okNew}, {put(3, 5, "b", "text"), errNone}, {put(4, 0, "c", ""), okGone}, {gone(2, 5, "none"), okHad}},
		// a number that is past
		{{put(1, 4, "a", "4"), errOld}, {gone(1, 0, "a"), errOld}, {put(3, 4, "b", "4"), errOld}, {put(0, 2, "a", "4"), errOld}, {gone(0, 0, "none"), errOld}},
		// what was old, or no op, is not the session's last
		{{put(1, 5, "a", "1"), okNew}, {"no op", errForm}, {put(3, 5, "b", ""), errNone}},
	}
	for flushes := range 1 << len(steps) {
		x := begin(t, wide)
		for i, l := range steps {
			for _, one := range l {
				x.next(one.op)
			}
			x.holds()
			if flushes>>i&1 == 1 {
				x.flush()
				x.crash(i)
				x.holds()
			}
		}
		s := open(t, "steps", room(t, wide), "d") // what is to be said is written out, too
		for i, l := range steps {
			saysAll(t, "step "+strconv.Itoa(i), s, l...)
			isAll(t, "step "+strconv.Itoa(i), s, doc("a", "3"))
		}
		// numbers may be passed over, and go on
		x.next(put(3, most, "b", "5"))
		x.next(put(3, most, "b", "6"))
		x.next(put(3, most-1, "b", "7"))
		x.next(gone(1, 6, "none"))
		x.next(put(1, 6, "none", "there"))
		x.next(put(1, 7, "none", "there"))
		x.holds()
	}
}

func TestApplyFlushes(t *testing.T) {
	x := begin(t, wide)
	for i := range 40 {
		switch {
		case i%9 == 4:
			x.next(gone(1, i+1, "k"+strconv.Itoa(i-1))) // a key that is gone is known, and is no other one
		case i%9 == 5:
			x.next(gone(1, i+1, "none")) // not known
		default:
			x.next(put(1, i+1, "k"+strconv.Itoa(i), text(i, i)))
		}
		x.holds()
	}
}

func TestApplyFlushesAtMemOps(t *testing.T) {
	d := room(t, wide)
	s := open(t, "MemOps", d, "d")
	for i := range api.MemOps {
		segments, loose, sure := s.Parts()
		if segments != 0 || loose != i || sure != 0 || len(d.List()) != 0 {
			t.Errorf("behind %d: Parts %d %d %d, files %q", i, segments, loose, sure, d.List())
		}
		saysAll(t, "MemOps", s, line{put(1, i+1, strconv.Itoa(i), "text"), okNew})
		if i == 3 {
			saysAll(t, "the same key", s, line{put(2, 1, "0", "text"), okHad}, line{gone(2, 2, "1"), okGone}, line{gone(2, 3, "none"), errNone})
		}
	}
	segments, loose, sure := s.Parts()
	if segments != 1 || loose != 0 || sure != api.MemOps+3 || !slices.Equal(d.List(), []string{"d-1", "d-list"}) {
		t.Errorf("behind MemOps: Parts %d %d %d, files %q", segments, loose, sure, d.List())
	}
}

// What the fuse did not let be written is tried again with the next op, whatever it is.
func TestApplyFlushesAgain(t *testing.T) {
	for fuse := range 8 {
		for i, data := range []string{put(1, 9, "k1", "again"), put(1, 9, "k9", "more"), gone(1, 9, "k1"), gone(1, 9, "none"), put(1, 8, "", ""), put(1, 8, "k7", "the same"), put(1, 1, "k0", "old"), "no op", ""} {
			x := begin(t, wide)
			for i := range 7 {
				x.next(put(1, i+1, "k"+strconv.Itoa(i), "text"))
			}
			x.fuse(fuse)
			x.next(put(1, 8, "k7", "text"))
			x.holds()
			if _, loose, _ := x.s.Parts(); (loose == 0) != (fuse >= 6) {
				t.Errorf("Fuse(%d): the table knows %d keys", fuse, loose)
			}
			for range 2 { // burnt yet
				x.next(put(2, x.p.applied, "k8", text(i, 9)))
				x.holds()
			}
			x.skip(x.p.applied + 1)
			x.fuse(-1)
			x.skip(x.p.applied + 1) // it is no op
			x.holds()
			x.next(data)
			x.holds()
			if fuse < 6 {
				if _, loose, sure := x.s.Parts(); loose != 0 || sure != x.p.applied {
					t.Errorf("Fuse(%d), %s: the table knows %d keys, sure %d", fuse, short(data), loose, sure)
				}
			}
		}
	}
}

func TestSkip(t *testing.T) {
	x := begin(t, wide)
	x.skip(2)
	x.skip(0)
	x.holds()
	x.skip(1)
	x.skip(1)
	x.holds()
	x.apply(1, put(1, 1, "a", "text"))
	x.apply(2, put(1, 1, "a", "text"))
	x.skip(2)
	x.skip(4)
	x.skip(3)
	x.holds()
	x.flush()
	x.skip(4)
	x.holds() // sure is 3
	x.crash(0)
	x.holds()
	x.skip(5)
	x.skip(4)
	x.apply(5, gone(1, 2, "a"))
	x.holds()
}

func TestExample(t *testing.T) {
	s := open(t, "the chapter's example", room(t, 1000), "d")
	saysAll(t, "the chapter's example", s, line{put(1, 1, "a", "xyx"), okNew}, line{put(1, 1, "a", "xyx"), okNew})
	if l, e := s.Find([]byte("x")); e != api.OK || !slices.Equal(l, []api.Match{{Key: "a", At: 0}, {Key: "a", At: 2}}) {
		t.Errorf("Find: %v %v", l, e)
	}
}

// P14.3

// layered is a pair of which keys stand in the table, in a newer segment and in an elder one, each in one of three ways.
func layered(t *testing.T, loose bool) *pair {
	t.Helper()
	x := begin(t, wide)
	seq := 0
	for layer := range 3 {
		for ways := range 27 {
			key := fmt.Sprintf("k%02d", ways)
			seq++
			switch []int{ways / 9, ways / 3 % 3, ways % 3}[layer] {
			case 1:
				x.next(put(1, seq, key, fmt.Sprintf("layer %d of %s%s", layer, key, strings.Repeat("aa", ways%4))))
			case 2:
				x.next(gone(1, seq, key))
			}
			if layer == 2 && loose {
				x.holds()
			}
		}
		if layer < 2 || !loose {
			x.flush()
		}
	}
	return x
}

func TestLayers(t *testing.T) {
	for _, loose := range []bool{true, false} {
		x := layered(t, loose)
		x.holds()
		x.flush()
		x.holds()
		x.crash(0)
		x.holds()
		for _, pattern := range []string{"layer", "layer 0", "layer 1", "layer 2", "a", "aa", "k0", "k1", "of", "e", "k26aaaa", " ", "l"} {
			got, e := x.s.Find([]byte(pattern))
			if want := x.p.find(pattern); e != api.OK || !slices.Equal(got, want) {
				t.Errorf("Find of %q: %v %v, want %v", pattern, got, e, want)
			}
		}
	}
}

// A key is told by the newest that knows it, table, segment or elder segment.
func TestLayersOfOneKey(t *testing.T) {
	for ways := range 81 { // of each of four layers: a text, gone, or not known
		s := open(t, "layers", room(t, wide), "d")
		want, has := "", false
		for layer, by := 0, ways; layer < 4; layer, by = layer+1, by/3 {
			text := "a" + strings.Repeat("xa", layer)
			switch by % 3 {
			case 1:
				s.Apply(s.Applied()+1, []byte(put(1, layer, "k", text)))
				want, has = text, true
			case 2:
				s.Apply(s.Applied()+1, []byte(gone(1, layer, "k")))
				want, has = "", false
			}
			s.Apply(s.Applied()+1, []byte(put(2, layer, "j"+strconv.Itoa(layer), "yay")))
			s.Apply(s.Applied()+1, []byte(put(3, layer, "l"+strconv.Itoa(layer), "yay")))
			if layer < 3 {
				answers(t, "Flush", s.Flush(), api.OK)
			}
		}
		if text, got := s.Get("k"); string(text) != want || got != has {
			t.Errorf("ways %d: Get: %q %t, want %q %t", ways, text, got, want, has)
		}
		l := []api.Match{{Key: "j0", At: 1}, {Key: "j1", At: 1}, {Key: "j2", At: 1}, {Key: "j3", At: 1}}
		for at := 0; at < len(want); at += 2 {
			l = append(l, api.Match{Key: "k", At: at})
		}
		l = append(l, api.Match{Key: "l0", At: 1}, api.Match{Key: "l1", At: 1}, api.Match{Key: "l2", At: 1}, api.Match{Key: "l3", At: 1})
		if got, e := s.Find([]byte("a")); e != api.OK || !slices.Equal(got, l) {
			t.Errorf("ways %d: Find: %v %v, want %v", ways, got, e, l)
		}
	}
}

func TestFindOfNoPattern(t *testing.T) {
	x := layered(t, true)
	for _, n := range []int{0, api.MaxPattern + 1, api.MaxPattern + 2, 1000, api.MaxAll + 1} {
		for _, s := range []*shard.Shard{x.s, open(t, "an empty one", room(t, 0), "d")} {
			if l, e := s.Find(make([]byte, n)); len(l) != 0 || e != api.ErrPattern {
				t.Errorf("Find of %d bytes: %v %v", n, l, e)
			}
		}
	}
	if l, e := x.s.Find(nil); len(l) != 0 || e != api.ErrPattern {
		t.Errorf("Find of nil: %v %v", l, e)
	}
	x.holds()
}

func TestFindOfTheLongestPattern(t *testing.T) {
	for _, n := range []int{api.MaxPattern - 1, api.MaxPattern} {
		pattern := text(3, n)
		s := open(t, "the longest", room(t, wide), "d")
		want := []api.Match{{Key: "a", At: 2}, {Key: "b", At: 0}}
		saysAll(t, "the longest", s, line{put(1, 1, "a", "--"+pattern+"-"), okNew}, line{put(1, 2, "b", pattern), okNew}, line{put(1, 3, "c", pattern[1:]), okNew})
		for range 2 { // from the table, and from a segment
			if l, e := s.Find([]byte(pattern)); e != api.OK || !slices.Equal(l, want) {
				t.Errorf("Find of %d bytes: %v %v", n, l, e)
			}
			answers(t, "Flush", s.Flush(), api.OK)
		}
	}
}

// Many places of a key that a newer one has, or has not any more, are passed over.
func TestFindOfMany(t *testing.T) {
	s := open(t, "many", room(t, wide), "d")
	full := strings.Repeat("a", api.MaxText)
	saysAll(t, "many", s, line{put(1, 1, "a", full), okNew}, line{put(1, 2, "b", full), okNew}, line{put(1, 3, "c", full), okNew})
	answers(t, "Flush", s.Flush(), api.OK)
	saysAll(t, "many", s, line{put(1, 4, "a", full[1:]), okHad}, line{gone(1, 5, "b"), okGone})
	for range 2 {
		l, e := s.Find([]byte("aa"))
		if e != api.OK || len(l) != 2*api.MaxText-3 {
			t.Fatalf("Find: %d places, %v", len(l), e)
		}
		for i, m := range l {
			want := api.Match{Key: "a", At: i}
			if i >= api.MaxText-2 {
				want = api.Match{Key: "c", At: i - api.MaxText + 2}
			}
			if m != want {
				t.Fatalf("place %d: %v, want %v", i, m, want)
			}
		}
		answers(t, "Flush", s.Flush(), api.OK)
	}
}

func TestGetOfNoKey(t *testing.T) {
	x := layered(t, true)
	for _, key := range []string{"", strings.Repeat("k", api.MaxKey+1), strings.Repeat("k", 1<<12), "\x00", "k", "k000", "none"} {
		if text, has := x.s.Get(key); len(text) != 0 || has {
			t.Errorf("Get of %s: %q %t", short(key), text, has)
		}
	}
}
