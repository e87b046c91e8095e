package fm_test

import (
	"bytes"
	"math"
	"slices"
	"strconv"
	"strings"
	"testing"

	"haystack/api"
	"haystack/bwt"
	"haystack/fm"
)

// list is texts with their name.
type list struct {
	name  string
	texts [][]byte
}

// of is texts by their bytes.
func of(texts ...string) [][]byte {
	var l [][]byte
	for _, text := range texts {
		l = append(l, []byte(text))
	}
	return l
}

// muddle is a number that looks like none near it.
func muddle(i int) int {
	v := (uint64(i) + 1) * 0x9e3779b97f4a7c15
	v = (v ^ v>>29) * 0xbf58476d1ce4e5b9
	return int((v ^ v>>32) >> 1)
}

// made is so many texts, each of so many bytes by a rule.
func made(docs, long int, rule func(i int) int) [][]byte {
	l := make([][]byte, docs)
	for doc := range l {
		l[doc] = make([]byte, long)
		for i := range l[doc] {
			l[doc][i] = byte(rule(doc*long + i))
		}
	}
	return l
}

// lists is texts of many kinds.
func lists() []list {
	l := []list{
		{"no text", nil},
		{"an empty text", of("")},
		{"a nil text", [][]byte{nil}},
		{"many empty texts", of("", "", "", "", "", "", "", "", "", "")},
		{"one byte", of("a")},
		{"byte 0", of("\x00")},
		{"byte 255", of("\xff")},
		{"bytes 0 to 3", of("\x00\x01\x02\x03")},
		{"bytes 0 and 255", of("\x00\xff\x00", "\xff\x00\xff", "\x00\x00\xff\xff")},
		{"bytes 0 alone", of("\x00\x00\x00", "\x00", "\x00\x00")},
		{"bytes 255 alone", of("\xff\xff\xff", "\xff", "\xff\xff")},
		{"the chapter's example", of("banana", "an")},
		{"empty texts among others", of("", "ab", "", "", "ba", "")},
		{"texts alike", of("abab", "abab", "abab", "abab")},
		{"one text that begins another", of("abcabcab", "abc", "abcabc", "")},
		{"many of one byte", of(strings.Split("abracadabra, abracadabra", "")...)},
		{"all alike", of(strings.Repeat("a", 100), strings.Repeat("a", 31))},
		{"just bytes of a sample", of("abcdefg", "hijklmn", "opqrstu")},
		{"each byte", made(1, 256, func(i int) int { return i })},
		{"each byte, downwards, a text each", made(256, 1, func(i int) int { return 255 - i })},
	}
	for _, long := range []int{1, 6, 7, 8, 9, 15, 16, 17, 63, 64, 65} {
		name := strconv.Itoa(long) + " bytes each, "
		l = append(l,
			list{name + "of two", made(5, long, func(i int) int { return 'a' + muddle(i)&1 })},
			list{name + "of many", made(4, long, muddle)},
			list{name + "again and again", made(3, long, func(i int) int { return 254 + i%3/2 })})
	}
	return append(l, list{"many texts", made(300, 3, func(i int) int { return 'a' + muddle(i)&3 })})
}

// short gives all texts whose row has up to seven symbols ahead of the 0: bytes 0, 97 and borders.
func short(do func(l list)) {
	for n, all := 0, 1; n <= 6; n, all = n+1, all*3 {
		for which := range all {
			bytes := make([]byte, n)
			for i, left := 0, which; i < n; i, left = i+1, left/3 {
				bytes[i] = "\x00a|"[left%3]
			}
			do(list{"short: " + strconv.Quote(string(bytes)), of(strings.Split(string(bytes), "|")...)})
		}
	}
}

// each gives all of these.
func each(do func(l list)) {
	for _, l := range lists() {
		do(l)
	}
	short(do)
}

// plainRow is the row that the chapter describes.
func plainRow(texts [][]byte) []int {
	row := []int{}
	for _, text := range texts {
		for _, b := range text {
			row = append(row, int(b)+2)
		}
		row = append(row, 1)
	}
	return append(row, 0)
}

// plainHits goes through the texts.
func plainHits(texts [][]byte, p []byte) []api.Hit {
	var hits []api.Hit
	for doc, text := range texts {
		for at := 0; len(p) > 0 && at+len(p) <= len(text); at++ {
			if bytes.Equal(text[at:at+len(p)], p) {
				hits = append(hits, api.Hit{Doc: doc, At: at})
			}
		}
	}
	return hits
}

// plainPart goes along a text byte by byte.
func plainPart(texts [][]byte, doc, from, n int) []byte {
	var part []byte
	if doc < 0 || doc >= len(texts) || from < 0 {
		return nil
	}
	for i := from; i < len(texts[doc]) && len(part) < n; i++ {
		part = append(part, texts[doc][i])
	}
	return part
}

// built is an index that there must be.
func built(t *testing.T, l list) *fm.Index {
	t.Helper()
	x, e := fm.Build(l.texts...)
	if x == nil || e != api.OK {
		t.Fatalf("%s: Build: %v", l.name, e)
	}
	return x
}

// from is an index by a turned row that there must be.
func from(t *testing.T, name string, turned []int) *fm.Index {
	t.Helper()
	x, e := fm.From(turned)
	if x == nil || e != api.OK {
		t.Fatalf("%s: From of %d symbols: %v", name, len(turned), e)
	}
	return x
}

// turned is a Turn of a closed row.
func turned(t *testing.T, row []int) []int {
	t.Helper()
	l, e := bwt.Turn(row...)
	if e != api.OK {
		t.Fatalf("Turn of %d symbols: %v", len(row), e)
	}
	return l
}

// refused tells of anything answered but an error.
func refused(t *testing.T, name string, want api.Errno, x *fm.Index, e api.Errno) {
	t.Helper()
	if x != nil || e != want {
		t.Errorf("%s: an index: %t, %v, want %v", name, x != nil, e, want)
	}
}

// holds tells of an index that is not that of these texts.
func holds(t *testing.T, l list, x *fm.Index) {
	t.Helper()
	holdsTexts(t, l, x)
	for _, p := range patterns(l.texts) {
		finds(t, l, x, p)
	}
	for doc := -1; doc <= len(l.texts); doc++ {
		for _, from := range []int{-1, 0, 1, 6, 7, 8, 9, x.Len(doc) - 1, x.Len(doc), x.Len(doc) + 1} {
			for _, n := range []int{-1, 0, 1, 2, 8, x.Len(doc) - from, x.Len(doc) - from + 1, math.MaxInt} {
				extracts(t, l, x, doc, from, n)
			}
		}
	}
}

// holdsTexts tells of other texts in an index, or of another turned row.
func holdsTexts(t *testing.T, l list, x *fm.Index) {
	t.Helper()
	if row := turned(t, plainRow(l.texts)); !slices.Equal(x.Turned(), row) {
		t.Errorf("%s: Turned is not Turn of the row", l.name)
	}
	if x.Docs() != len(l.texts) {
		t.Fatalf("%s: Docs %d, want %d", l.name, x.Docs(), len(l.texts))
	}
	for doc, text := range l.texts {
		if x.Len(doc) != len(text) {
			t.Errorf("%s: Len(%d) %d, want %d", l.name, doc, x.Len(doc), len(text))
		}
		extracts(t, l, x, doc, 0, len(text))
	}
}

// finds tells of a pattern that is found elsewhere than in the plain texts.
func finds(t *testing.T, l list, x *fm.Index, p []byte) {
	t.Helper()
	want := plainHits(l.texts, p)
	if got := x.Locate(p); !slices.Equal(got, want) {
		t.Errorf("%s: Locate(%q): %d places, want %d: %v, want %v", l.name, p, len(got), len(want), got[:min(len(got), 9)], want[:min(len(want), 9)])
	}
	if n := x.Count(p); n != len(want) {
		t.Errorf("%s: Count(%q) %d, want %d", l.name, p, n, len(want))
	}
}

// extracts tells of a part that is none of the plain text.
func extracts(t *testing.T, l list, x *fm.Index, doc, from, n int) {
	t.Helper()
	want := plainPart(l.texts, doc, from, n)
	if got := x.Extract(doc, from, n); !bytes.Equal(got, want) {
		t.Errorf("%s: Extract(%d, %d, %d): %q, want %q", l.name, doc, from, n, got[:min(len(got), 70)], want[:min(len(want), 70)])
	}
}

// patterns is what is sought in texts: what stands there, what nearly does, and what does across two of them.
func patterns(texts [][]byte) [][]byte {
	l := [][]byte{nil, {}, {0}, {255}, {1}, {'a'}, {0, 0}, {255, 255}, {255, 0}, {0, 255}, {'a', 'a'}, {'a', 0}, {0, 'a', 0}}
	for doc, text := range texts {
		if doc > 9 && doc < len(texts)-3 {
			continue
		}
		l = append(l, text, append(slices.Clone(text), 0), append(slices.Clone(text), 'a'), append([]byte{255}, text...))
		for from := range min(len(text), 12) {
			for long := range min(len(text)-from, 9) {
				l = append(l, text[from:from+long+1])
			}
		}
		if doc > 0 {
			ahead := texts[doc-1]
			l = append(l, slices.Concat(ahead, text), slices.Concat(ahead[len(ahead)/2:], text[:len(text)/2]), slices.Concat(ahead, []byte{1}, text))
		}
	}
	return l
}

// P7.1

func TestBuild(t *testing.T) {
	each(func(l list) { holds(t, l, built(t, l)) })
}

func TestTurnedTold(t *testing.T) {
	for _, c := range []struct {
		texts  [][]byte
		turned []int
	}{
		{nil, []int{0}},
		{of(""), []int{1, 0}},
		{of("", ""), []int{1, 1, 0}},
		{of("\x00"), []int{1, 2, 0}},
		{of("\xff"), []int{1, 257, 0}},
		{of("\x00\xff"), []int{1, 257, 0, 2}},
		{of("\x00", "\xff"), []int{1, 257, 2, 0, 1}},
		{of("a", "b"), []int{1, 100, 99, 0, 1}},
	} {
		x, e := fm.Build(c.texts...)
		if l := x.Turned(); e != api.OK || !slices.Equal(l, c.turned) {
			t.Errorf("Turned of %q: %d, %v, want %d", c.texts, l, e, c.turned)
		}
	}
}

// great is texts with a row of just so many symbols.
func great(n int) []list {
	shorts := made((n-1)/4, 3, func(i int) int { return 'a' + muddle(i)&1 })
	shorts[0] = append(shorts[0], bytes.Repeat([]byte{'z'}, (n-1)%4)...)
	half := n/2 - 1
	return []list{
		{"one long text", made(1, n-2, muddle)},
		{"one long text, all alike", made(1, n-2, func(i int) int { return 7 })},
		{"one long text of byte 255", made(1, n-2, func(i int) int { return 255 })},
		{"a long text of two by turns", made(1, n-2, func(i int) int { return i & 1 })},
		{"two long texts", slices.Concat(made(1, half, muddle), made(1, n-3-half, muddle))},
		{"many short texts", shorts},
		{"many empty texts", make([][]byte, n-1)},
		{"a long text between empty ones", slices.Concat(make([][]byte, 5), made(1, n-17, muddle), make([][]byte, 10))},
	}
}

func TestBuildOfMany(t *testing.T) {
	for _, n := range []int{api.MaxAll - 1, api.MaxAll} {
		for _, l := range great(n) {
			if len(plainRow(l.texts)) != n {
				t.Fatalf("%s: a row of %d symbols, want %d", l.name, len(plainRow(l.texts)), n)
			}
			holdsMany(t, l, built(t, l))
			holdsMany(t, l, from(t, l.name, turned(t, plainRow(l.texts))))
		}
	}
}

// holdsMany tells of an index that is not that of these texts, by a part of what there is to ask.
func holdsMany(t *testing.T, l list, x *fm.Index) {
	t.Helper()
	if row := turned(t, plainRow(l.texts)); !slices.Equal(x.Turned(), row) || x.Docs() != len(l.texts) {
		t.Fatalf("%s: Turned, or Docs %d, want %d", l.name, x.Docs(), len(l.texts))
	}
	for doc := 0; doc < len(l.texts); doc += len(l.texts)/100 + 1 {
		extracts(t, l, x, doc, 0, math.MaxInt)
		extracts(t, l, x, doc, len(l.texts[doc])/2, 20)
	}
	last := len(l.texts) - 1
	extracts(t, l, x, last, 0, math.MaxInt)
	for _, p := range [][]byte{{}, {0}, {7}, {'a'}, {255}, {7, 7, 7}, {0, 1}, {'a', 'b', 'a'}, l.texts[0], l.texts[last], append(slices.Clone(l.texts[0]), 7)} {
		finds(t, l, x, p)
	}
}

func TestTooMany(t *testing.T) {
	for _, n := range []int{api.MaxAll + 1, api.MaxAll + 2, 2 * api.MaxAll} {
		for _, l := range great(n) {
			x, e := fm.Build(l.texts...)
			refused(t, l.name+", Build of "+strconv.Itoa(n), api.ErrLong, x, e)
		}
	}
	long := make([]byte, 1<<26)
	x, e := fm.Build(long, long, long)
	refused(t, "Build of what is far too long", api.ErrLong, x, e)
}

// Too many come before what is no turned row, or none of texts.
func TestFromTooMany(t *testing.T) {
	n := api.MaxAll + 1
	for _, long := range []int{n, 2 * n} {
		x, e := fm.From(append(slices.Repeat([]int{1}, long-1), 0)) // its own Turn, of many empty texts
		refused(t, "many empty texts", api.ErrLong, x, e)
	}
	for name, l := range map[string][]int{
		"noughts": make([]int, n), "no 0": slices.Repeat([]int{1}, n), "below 0": slices.Repeat([]int{-1}, n),
		"above 257": append(slices.Repeat([]int{258}, n-1), 0), "no 1": append(slices.Repeat([]int{2}, n-1), 0),
	} {
		x, e := fm.From(l)
		refused(t, name, api.ErrLong, x, e)
		x, e = fm.From(l[1:])
		refused(t, name+", MaxAll of it", api.ErrForm, x, e)
	}
}

func TestFromOfTurned(t *testing.T) {
	each(func(l list) { holds(t, l, from(t, l.name, turned(t, plainRow(l.texts)))) })
}

func TestFromOfNoTurn(t *testing.T) {
	for _, l := range [][]int{
		nil, {}, {1}, {-1}, {2}, {math.MinInt}, {math.MaxInt}, {0, 0}, {0, 1}, {1, 1}, {1, -1}, {-1, 0}, {1, 0, 0}, {0, 1, 1}, {1, 0, 1}, {1, 2, 3},
		{0, 1, 2}, {1, 2, 0, 0}, {1, 2, -1}, {1, 0, 2, 3}, {1, 258, 257, 0, 0}, {0, 257, 1},
	} {
		x, e := fm.From(l)
		refused(t, "From of "+numbers(l), api.ErrForm, x, e)
	}
}

// numbers is a row in words.
func numbers(l []int) string {
	text := "("
	for _, c := range l {
		text += " " + strconv.Itoa(c)
	}
	return text + " )"
}

// A row may be closed and turned, and none of texts still.
func TestFromOfNoTexts(t *testing.T) {
	for _, row := range [][]int{
		{2, 0}, {257, 0}, {1, 2, 0}, {1, 1, 257, 0}, {99, 100, 0}, {3, 1, 2, 0}, {258, 0}, {258, 1, 0}, {1, 258, 1, 0}, {2, 258, 257, 1, 0},
		{511, 1, 0}, {512, 1, 0}, {513, 1, 0}, {514, 2, 1, 0}, {1 << 16, 1, 0}, {1<<16 + 2, 1, 0}, {math.MaxInt, 1, 0}, {math.MaxInt, 0}, {math.MaxInt, 258, 1, 1, 0},
	} {
		x, e := fm.From(turned(t, row))
		refused(t, "From of Turn of "+numbers(row), api.ErrForm, x, e)
	}
	for _, c := range []int{258, 259, 512, 514, 1 << 20, math.MaxInt} {
		for _, at := range []int{0, 500, api.MaxAll - 3} {
			row := plainRow(made(1, api.MaxAll-2, muddle))
			row[at] = c
			x, e := fm.From(turned(t, row))
			refused(t, strconv.Itoa(c)+" at "+strconv.Itoa(at)+" of MaxAll", api.ErrForm, x, e)
		}
	}
	row := plainRow(made(1, api.MaxAll-2, muddle))
	row[api.MaxAll-2] = 2
	x, e := fm.From(turned(t, row))
	refused(t, "no 1 ahead of the 0 of MaxAll", api.ErrForm, x, e)
}

// Of all short rows those are taken that are Turn of the row of some texts, and no other.
func TestFromAllShort(t *testing.T) {
	of := map[string]bool{}
	short(func(l list) {
		if row := plainRow(l.texts); len(row) <= 6 {
			of[numbers(turned(t, row))] = true
		}
	})
	of[numbers([]int{0})] = true
	symbols := []int{-1, 0, 1, 2, 'a' + 2, 258} // the bytes of short texts are 0 and a
	for n, all := 0, 1; n <= 6; n, all = n+1, all*len(symbols) {
		for which := range all {
			l := make([]int, n)
			for i, left := 0, which; i < n; i, left = i+1, left/len(symbols) {
				l[i] = symbols[left%len(symbols)]
			}
			x, e := fm.From(l)
			if !of[numbers(l)] {
				refused(t, "From of "+numbers(l), api.ErrForm, x, e)
			} else if e != api.OK || !slices.Equal(x.Turned(), l) {
				t.Errorf("From of %d: %d, %v", l, x.Turned(), e)
			}
		}
	}
}

// near gives rows that are a turned one but for little.
func near(l []int, do func(name string, near []int)) {
	n := len(l)
	for p := range n {
		if p > 5 && p < n-5 && p != n/2 {
			continue
		}
		where := " at " + strconv.Itoa(p)
		for _, q := range []int{0, (p + 1) % n, n / 2, n - 1} {
			other := slices.Clone(l)
			other[p], other[q] = other[q], other[p]
			do("exchanged with "+strconv.Itoa(q)+where, other)
		}
		for _, c := range []int{math.MinInt, -1, 0, 1, 2, 99, 257, 258, l[p] - 1, l[p] + 1, math.MaxInt} {
			other := slices.Clone(l)
			other[p] = c
			do(strconv.Itoa(c)+where, other)
			do(strconv.Itoa(c)+" more"+where, slices.Insert(slices.Clone(l), p, c))
		}
		do("left out"+where, slices.Delete(slices.Clone(l), p, p+1))
	}
	do("as long again", slices.Concat(l, l))
}

// What is nearly a turned row is refused, but where it is one of other texts: then these are its index.
func TestFromOfNearlyTurned(t *testing.T) {
	for _, l := range lists() {
		near(turned(t, plainRow(l.texts)), func(name string, row []int) {
			x, e := fm.From(row)
			texts, ok := textsOf(row)
			if !ok {
				refused(t, l.name+", "+name, api.ErrForm, x, e)
			} else if e != api.OK {
				t.Errorf("%s, %s: %v", l.name, name, e)
			} else {
				holdsTexts(t, list{l.name + ", " + name, texts}, x)
			}
		})
	}
}

// textsOf is the texts of whose row this is Turn, if there are some.
func textsOf(l []int) (texts [][]byte, ok bool) {
	row, e := bwt.Back(l...)
	if e != api.OK {
		return nil, false
	}
	var text []byte
	for _, c := range row[:len(row)-1] {
		switch {
		case c > 257:
			return nil, false
		case c == 1:
			texts, text = append(texts, text), nil
		default:
			text = append(text, byte(c-2))
		}
	}
	return texts, len(text) == 0
}

// P7.2

func TestLocateTold(t *testing.T) {
	for _, c := range []struct {
		texts [][]byte
		p     string
		hits  []api.Hit
	}{
		{of("banana", "an"), "an", []api.Hit{{Doc: 0, At: 1}, {Doc: 0, At: 3}, {Doc: 1, At: 0}}},
		{of("banana", "an"), "banana", []api.Hit{{Doc: 0, At: 0}}},
		{of("banana", "an"), "bananas", nil},
		{of("banana", "an"), "bananaan", nil},
		{of("banana", "an"), "aan", nil},
		{of("banana", "an"), "", nil},
		{of("banana", "an"), "x", nil},
		{of("banana", "an"), "ana", []api.Hit{{Doc: 0, At: 1}, {Doc: 0, At: 3}}},
		{of("aaaa"), "aa", []api.Hit{{Doc: 0, At: 0}, {Doc: 0, At: 1}, {Doc: 0, At: 2}}},
		{of("aa", "", "a", "aaa"), "aa", []api.Hit{{Doc: 0, At: 0}, {Doc: 3, At: 0}, {Doc: 3, At: 1}}},
		{of("ab", "ab"), "ba", nil},
		{of("ab", "ab"), "b\x01a", nil},
		{of("ab", "ab"), "b\xff", nil},
		{of("\x00\xff", "\xff\x00", "\xff"), "\x00", []api.Hit{{Doc: 0, At: 0}, {Doc: 1, At: 1}}},
		{of("\x00\xff", "\xff\x00", "\xff"), "\xff", []api.Hit{{Doc: 0, At: 1}, {Doc: 1, At: 0}, {Doc: 2, At: 0}}},
		{of("\x00\xff", "\xff\x00", "\xff"), "\xff\xff", nil},
		{nil, "a", nil},
		{nil, "", nil},
		{of("", ""), "a", nil},
		{of("", ""), "", nil},
		{of("", ""), "\x00", nil},
		{of("", ""), "\xff", nil},
	} {
		x, e := fm.Build(c.texts...)
		if hits := x.Locate([]byte(c.p)); e != api.OK || !slices.Equal(hits, c.hits) {
			t.Errorf("Locate(%q) in %q: %v, %v, want %v", c.p, c.texts, hits, e, c.hits)
		}
		if n := x.Count([]byte(c.p)); n != len(c.hits) {
			t.Errorf("Count(%q) in %q: %d, want %d", c.p, c.texts, n, len(c.hits))
		}
	}
}

// Each pattern of up to four bytes, of those that stand there and some that do not.
func TestLocateAllShort(t *testing.T) {
	l := list{"two bytes and the ends", of("abbab\x00", "", "\xff\xffaba", "b", "bab\xffb\x00\x00", "abbab")}
	x := built(t, l)
	for n, all := 0, 1; n <= 4; n, all = n+1, all*6 {
		for which := range all {
			p := make([]byte, n)
			for i, left := 0, which; i < n; i, left = i+1, left/6 {
				p[i] = "\x00\x01abc\xff"[left%6]
			}
			finds(t, l, x, p)
		}
	}
}

func TestLongPatterns(t *testing.T) {
	l := list{"all alike", of(strings.Repeat("a", 40), strings.Repeat("a", 41))}
	x := built(t, l)
	for n := range 45 {
		finds(t, l, x, bytes.Repeat([]byte{'a'}, n))
	}
	for _, n := range []int{100, api.MaxPattern + 1, api.MaxAll, 1 << 22} {
		finds(t, l, x, bytes.Repeat([]byte{'a'}, n))
		finds(t, l, x, make([]byte, n))
	}
}

// P7.3

func TestLen(t *testing.T) {
	x := built(t, list{"of many lengths", of("", "a", "banana", "", "an")})
	if x.Docs() != 5 {
		t.Error(x.Docs())
	}
	for doc, want := range map[int]int{math.MinInt: 0, -2: 0, -1: 0, 0: 0, 1: 1, 2: 6, 3: 0, 4: 2, 5: 0, 6: 0, 1 << 20: 0, math.MaxInt: 0} {
		if n := x.Len(doc); n != want {
			t.Errorf("Len(%d): %d, want %d", doc, n, want)
		}
	}
}

func TestExtractTold(t *testing.T) {
	x := built(t, list{"told", of("banana", "", "an")})
	for _, c := range []struct {
		doc, from, n int
		want         string
	}{
		{0, 0, 6, "banana"}, {0, 0, 7, "banana"}, {0, 0, math.MaxInt, "banana"}, {0, 1, math.MaxInt, "anana"}, {0, 0, 5, "banan"}, {0, 2, 3, "nan"}, {0, 5, 1, "a"},
		{0, 5, 9, "a"}, {0, 6, 1, ""}, {0, 7, 1, ""}, {0, 8, 2, ""}, {0, math.MaxInt, 1, ""}, {0, math.MaxInt, math.MaxInt, ""}, {0, 0, 0, ""}, {0, 3, 0, ""},
		{0, 0, -1, ""}, {0, -1, 3, ""}, {0, -1, -1, ""}, {0, math.MinInt, 3, ""}, {0, 0, math.MinInt, ""}, {0, math.MinInt, math.MaxInt, ""}, {0, -1, math.MaxInt, ""},
		{1, 0, 1, ""}, {1, 0, 0, ""}, {1, 1, 1, ""}, {1, -1, 2, ""}, {2, 0, 2, "an"}, {2, 1, 7, "n"}, {2, 2, 7, ""},
		{-1, 0, 3, ""}, {3, 0, 3, ""}, {4, 0, 3, ""}, {math.MinInt, 0, 3, ""}, {math.MaxInt, 0, 3, ""}, {-1, -1, -1, ""}, {3, 0, math.MaxInt, ""},
	} {
		if part := x.Extract(c.doc, c.from, c.n); string(part) != c.want {
			t.Errorf("Extract(%d, %d, %d): %q, want %q", c.doc, c.from, c.n, part, c.want)
		}
	}
}

func TestExtractAllParts(t *testing.T) {
	for _, l := range []list{
		{"of many lengths", of("", "abcdefghijklmnopqrstuvwxyz", "0123456", "01234567", "", "\x00\xff\x00\xff\x00\xff\x00\xff\x00\xff", "a")},
		{"one text", of("abcdefghijklmnopqrstuvwxyz")},
	} {
		x := built(t, l)
		for doc := -2; doc < len(l.texts)+2; doc++ {
			for from := -2; from < 30; from++ {
				for n := -2; n < 30; n++ {
					extracts(t, l, x, doc, from, n)
				}
			}
		}
	}
}

// P7.4

func TestFromIsTheIndex(t *testing.T) {
	each(func(l list) {
		x := built(t, l)
		twin := from(t, l.name, x.Turned())
		holds(t, l, twin)
		if again := from(t, l.name, twin.Turned()); !slices.Equal(again.Turned(), x.Turned()) {
			t.Errorf("%s: another Turned from time to time", l.name)
		}
	})
}

// An Index that nothing was built for answers as a nil one does.
func TestNilIndex(t *testing.T) {
	for name, x := range map[string]*fm.Index{"nil": nil, "not built": {}} {
		for _, p := range [][]byte{nil, {}, {0}, {255}, []byte("an"), make([]byte, 1000)} {
			if n := x.Count(p); n != 0 {
				t.Errorf("%s: Count(%q) %d", name, p, n)
			}
			if hits := x.Locate(p); len(hits) != 0 {
				t.Errorf("%s: Locate(%q) %v", name, p, hits)
			}
		}
		for _, i := range []int{math.MinInt, -1, 0, 1, 8, math.MaxInt} {
			if n := x.Len(i); n != 0 {
				t.Errorf("%s: Len(%d) %d", name, i, n)
			}
			for _, n := range []int{math.MinInt, -1, 0, 1, math.MaxInt} {
				if part := x.Extract(i, n, 1); len(part) != 0 {
					t.Errorf("%s: Extract(%d, %d, 1) %q", name, i, n, part)
				}
				if part := x.Extract(0, i, n); len(part) != 0 {
					t.Errorf("%s: Extract(0, %d, %d) %q", name, i, n, part)
				}
			}
		}
		if x.Docs() != 0 || len(x.Turned()) != 0 {
			t.Errorf("%s: Docs %d, Turned %d", name, x.Docs(), x.Turned())
		}
	}
}

// roomy is a list with spare room that is told apart from it.
func roomy[T any](l []T, spare T) []T {
	return append(slices.Clone(l), spare, spare, spare)[: len(l) : len(l)+3]
}

// whole is a list and its spare room.
func whole[T any](l []T) []T { return l[:cap(l)] }

// fill makes all of a list another thing, its spare room too.
func fill[T any](l []T, v T) {
	for i := range whole(l) {
		whole(l)[i] = v
	}
}

func TestTextsHandedIn(t *testing.T) {
	each(func(l list) {
		texts := make([][]byte, 0, len(l.texts)+1)
		var were [][]byte
		for _, text := range l.texts {
			texts = append(texts, roomy(text, 0xee))
			were = append(were, slices.Clone(whole(texts[len(texts)-1])))
		}
		spare := []byte("spare")
		whole(texts)[len(texts)] = spare
		x := built(t, list{l.name, texts})
		for doc, text := range texts {
			if len(text) != len(l.texts[doc]) || !bytes.Equal(whole(text), were[doc]) {
				t.Errorf("%s: Build changed text %d: %q", l.name, doc, whole(text))
			}
			fill(text, 'x')
		}
		if string(whole(texts)[len(texts)]) != "spare" {
			t.Errorf("%s: Build changed the spare room", l.name)
		}
		fill(texts, []byte("other"))
		holds(t, l, x)
	})
}

func TestTurnedHandedIn(t *testing.T) {
	each(func(l list) {
		row := roomy(turned(t, plainRow(l.texts)), 77)
		were := slices.Clone(whole(row))
		x := from(t, l.name, row)
		if !slices.Equal(whole(row), were) {
			t.Errorf("%s: From changed the row", l.name)
		}
		fill(row, -9)
		holds(t, l, x)
	})
	for _, row := range [][]int{roomy([]int{1, 0, 1}, 5), roomy([]int{258, 1, 0}, 5), roomy(make([]int, api.MaxAll+1), 5)} {
		were := slices.Clone(whole(row))
		if _, e := fm.From(row); e == api.OK || !slices.Equal(whole(row), were) {
			t.Errorf("a row that is refused: %v, or changed", e)
		}
	}
}

func TestPatternsHandedIn(t *testing.T) {
	for _, l := range lists() {
		x := built(t, l)
		for _, p := range patterns(l.texts) {
			p = roomy(p, 0xee)
			were := slices.Clone(whole(p))
			n, hits := x.Count(p), x.Locate(p)
			if !bytes.Equal(whole(p), were) {
				t.Errorf("%s: %q changed to %q", l.name, were, whole(p))
			}
			fill(p, 'x')
			if want := plainHits(l.texts, were[:len(p)]); n != len(want) || !slices.Equal(hits, want) {
				t.Errorf("%s: the places of %q changed with it", l.name, were)
			}
		}
	}
}

// What is answered may be overwritten, spare room too: nothing else has it.
func TestAnsweredIsNew(t *testing.T) {
	each(func(l list) {
		x := built(t, l)
		twin := from(t, l.name, x.Turned())
		row, again := x.Turned(), x.Turned()
		want := slices.Clone(again)
		fill(row, -9)
		if !slices.Equal(again, want) {
			t.Errorf("%s: Turned shares with another", l.name)
		}
		for doc, text := range l.texts {
			part, again := x.Extract(doc, 0, len(text)), x.Extract(doc, 0, len(text))
			fill(part, 'x')
			if !bytes.Equal(again, text) {
				t.Errorf("%s: Extract shares with another", l.name)
			}
		}
		for _, p := range patterns(l.texts) {
			hits, again := x.Locate(p), x.Locate(p)
			fill(hits, api.Hit{Doc: -1, At: -1})
			if !slices.Equal(again, plainHits(l.texts, p)) {
				t.Errorf("%s: Locate shares with another", l.name)
			}
		}
		holds(t, l, x)
		holds(t, l, twin)
	})
}

// Nothing that is asked changes an index, and one that is built later is another.
func TestAskedAgain(t *testing.T) {
	all := lists()
	var indexes []*fm.Index
	for _, l := range all {
		indexes = append(indexes, built(t, l))
	}
	for range 2 {
		for i, l := range all {
			holds(t, l, indexes[i])
		}
	}
}
