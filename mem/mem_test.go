package mem_test

import (
	"bytes"
	"fmt"
	"slices"
	"strconv"
	"strings"
	"testing"

	"haystack/api"
	"haystack/mem"
)

// entry is a key and what became of it.
type entry struct {
	key  string
	has  bool
	text string
}

func (e entry) String() string { return fmt.Sprintf("%s %t %s", short(e.key), e.has, short(e.text)) }

// plain is what a table is held against: entries as they came, gone through each time.
type plain []entry

// said is plain with one more entry: it takes the place of the one of its key, if there is one.
func (p plain) said(e entry) plain {
	others := slices.DeleteFunc(slices.Clone(p), func(other entry) bool { return other.key == e.key })
	return append(others, e)
}

// tried is plain after a Put or Delete, with its error, by the chapter's words.
func (p plain) tried(e entry) (plain, api.Errno) {
	switch {
	case len(e.key) < 1 || len(e.key) > 64:
		return p, api.ErrArg
	case len(e.text) > 4096:
		return p, api.ErrLong
	}
	return p.said(e), api.OK
}

// rising is the entries by their keys' bytes, of those that have a text, or of the others.
func (p plain) rising(has bool) []entry {
	var l []entry
	for _, e := range p {
		if e.has == has {
			l = append(l, e)
		}
	}
	slices.SortFunc(l, func(a, b entry) int { return bytes.Compare([]byte(a.key), []byte(b.key)) })
	return l
}

// get goes through the entries.
func (p plain) get(key string) (text string, has, known bool) {
	for _, e := range p {
		if e.key == key {
			return e.text, e.has, true
		}
	}
	return "", false, false
}

// find goes through each text, byte by byte.
func (p plain) find(pattern string) []api.Match {
	var l []api.Match
	for _, e := range p.rising(true) {
		for at := 0; pattern != "" && at+len(pattern) <= len(e.text); at++ {
			if e.text[at:at+len(pattern)] == pattern {
				l = append(l, api.Match{Key: e.key, At: at})
			}
		}
	}
	return l
}

// doc is a document.
func doc(key, text string) api.Doc { return api.Doc{Key: key, Text: []byte(text)} }

// of is entries, each by its key and its text, parted by a colon; without one the key is gone.
func of(l ...string) plain {
	var p plain
	for _, one := range l {
		key, text, has := strings.Cut(one, ":")
		p = append(p, entry{key, has, text})
	}
	return p
}

// made is a table of entries, each Put or Deleted.
func made(t *testing.T, p plain) *mem.Table {
	t.Helper()
	table := mem.New()
	for _, e := range p {
		answers(t, "made of "+short(e.key), try(table, e), api.OK)
	}
	return table
}

// try does to a table what an entry says.
func try(table *mem.Table, e entry) api.Errno {
	if e.has {
		return table.Put(e.key, []byte(e.text))
	}
	return table.Delete(e.key)
}

// answers tells of an error that is not the one that is asked for.
func answers(t *testing.T, what string, e, want api.Errno) {
	t.Helper()
	if e != want {
		t.Errorf("%s: %v, want %v", what, e, want)
	}
}

// short is a text for a message.
func short(text string) string {
	return fmt.Sprintf("%d %q", len(text), text[:min(len(text), 40)])
}

// holds tells of a table that does not answer as entries do.
func holds(t *testing.T, what string, table *mem.Table, p plain) {
	t.Helper()
	holdsLists(t, what, table, p)
	for _, key := range asked(p) {
		gets(t, what, table, key, p)
	}
	for _, pattern := range patterns(p) {
		finds(t, what, table, pattern, p)
	}
}

// holdsLists tells of a table whose Docs, Gone or Len are not those of entries.
func holdsLists(t *testing.T, what string, table *mem.Table, p plain) {
	t.Helper()
	want := p.rising(true)
	same := func(d api.Doc, e entry) bool { return d.Key == e.key && string(d.Text) == e.text }
	if docs := table.Docs(); !slices.EqualFunc(docs, want, same) {
		t.Errorf("%s: %d documents, want %d: %.200q, want %v", what, len(docs), len(want), docs, want[:min(len(want), 9)])
	}
	var gone []string
	for _, e := range p.rising(false) {
		gone = append(gone, e.key)
	}
	if got := table.Gone(); !slices.Equal(got, gone) {
		t.Errorf("%s: Gone: %q, want %q", what, got, gone)
	}
	if n := table.Len(); n != len(p) {
		t.Errorf("%s: Len: %d, want %d", what, n, len(p))
	}
}

// gets tells of a key of which Get does not answer as entries do.
func gets(t *testing.T, what string, table *mem.Table, key string, p plain) {
	t.Helper()
	text, has, known := table.Get(key)
	wantText, wantHas, wantKnown := p.get(key)
	if string(text) != wantText || has != wantHas || known != wantKnown {
		t.Errorf("%s: Get of %s: %s, %t, %t, want %s, %t, %t", what, short(key), short(string(text)), has, known, short(wantText), wantHas, wantKnown)
	}
}

// finds tells of a pattern that is not found where it stands in the entries.
func finds(t *testing.T, what string, table *mem.Table, pattern string, p plain) {
	t.Helper()
	want := p.find(pattern)
	if got := table.Find([]byte(pattern)); !slices.Equal(got, want) {
		t.Errorf("%s: Find of %s: %d places, want %d: %v, want %v", what, short(pattern), len(got), len(want), got[:min(len(got), 9)], want[:min(len(want), 9)])
	}
}

// asked is keys that entries have, others that are next to them, and texts that are none.
func asked(p plain) []string {
	l := append([]string{"a", "zz", "\x00", "\xff"}, badKeys()...)
	for _, e := range p {
		l = append(l, e.key, e.key+"\x00", e.key[1:], strings.ToUpper(e.key))
	}
	return l
}

// patterns is those that stand in the texts of entries, some that stand in none, and none at all.
func patterns(p plain) []string {
	l := []string{"", "a", "aa", "ab", "\x00", "\xff", "no such text", strings.Repeat("a", api.MaxText+1)}
	for _, e := range p {
		n := len(e.text)
		l = append(l, e.text, e.text+"a", "a"+e.text, e.key, e.text[:n/2], e.text[n/2:], e.text[n/3:n-n/3])
		if n > 0 {
			l = append(l, e.text[:1], e.text[n-1:], e.text[1:], e.text[:n-1])
		}
	}
	for i := range min(len(p), 20) {
		l = append(l, p[i].text+p[len(p)-1-i].text) // a pattern does not go from one text into the next
	}
	slices.Sort(l)
	return slices.Compact(l)
}

// badKeys is texts that are no keys, one of fewer signs than bytes among them.
func badKeys() []string {
	return []string{
		"", strings.Repeat("k", api.MaxKey+1), strings.Repeat("k", api.MaxKey+2), strings.Repeat("\x00", api.MaxKey+1),
		strings.Repeat("ä", api.MaxKey/2) + "k", strings.Repeat("k", 2*api.MaxKey), strings.Repeat("\xff", 1<<16),
	}
}

// goodKeys is keys of any bytes, up to the longest ones, rising.
func goodKeys() []string {
	return []string{
		"\x00", "\x00\x00", "\x00a", "\t", "\n", " ", "  ", "#", "-", "10", "2", "A", "B", "a", "a\x00", "a ", "a/b", "aa", "ab", "b",
		strings.Repeat("k", api.MaxKey-1), strings.Repeat("k", api.MaxKey), strings.Repeat("k", api.MaxKey-1) + "l", "~", "\x7f",
		"\x80", "\xc3", strings.Repeat("ä", api.MaxKey/2), "\xff", "\xff\x00", strings.Repeat("\xff", api.MaxKey),
	}
}

// goodTexts is texts of any bytes, up to the longest ones.
func goodTexts() []string {
	return []string{
		"", "\x00", "\xff", "a", "banana", "\x00\xff\x00\xff", "aaaa", "ab ab ab", "ä", "line\nline\n",
		strings.Repeat("a", api.MaxText-1), strings.Repeat("a", api.MaxText), strings.Repeat("ab", api.MaxText/2), strings.Repeat("\x00", api.MaxText),
		strings.Repeat("x", api.MaxText-1) + "y", "y" + strings.Repeat("x", api.MaxText-1),
	}
}

// badTexts is texts that are too long, one of fewer signs than MaxText among them.
func badTexts() []string {
	return []string{
		strings.Repeat("a", api.MaxText+1), strings.Repeat("\x00", api.MaxText+1), strings.Repeat("ä", api.MaxText/2) + "a",
		strings.Repeat("a", 2*api.MaxText), strings.Repeat("\xff", 1<<20),
	}
}

// P12.1

func TestNew(t *testing.T) {
	long, longText := strings.Repeat("k", api.MaxKey+1), strings.Repeat("t", api.MaxText+1)
	for i, c := range []struct {
		docs []api.Doc
		want plain
	}{
		{nil, nil},
		{[]api.Doc{}, nil},
		{[]api.Doc{doc("a", "1")}, of("a:1")},
		{[]api.Doc{{Key: "a"}}, of("a:")},
		{[]api.Doc{doc("b", "2"), doc("a", "1"), doc("c", "")}, of("a:1", "b:2", "c:")},
		{[]api.Doc{doc("a", "1"), doc("a", "2")}, of("a:2")},
		{[]api.Doc{doc("a", "2"), doc("a", "1")}, of("a:1")},
		{[]api.Doc{doc("a", "1"), doc("b", "2"), doc("a", "3"), doc("b", ""), doc("a", "")}, of("a:", "b:")},
		{[]api.Doc{doc("a", "3"), doc("b", "2"), doc("a", "longer"), doc("b", "2"), doc("a", "1")}, of("a:1", "b:2")},
		{[]api.Doc{{}}, nil},
		{[]api.Doc{doc("", "1"), doc(long, "2"), doc("a", longText)}, nil},
		{[]api.Doc{doc("", "1"), doc("a", "2")}, of("a:2")},
		{[]api.Doc{doc("a", "1"), doc("", "2"), doc("b", "3"), doc(long, "4"), doc("c", "5"), doc("d", longText), doc("e", "6")}, of("a:1", "b:3", "c:5", "e:6")},
		{[]api.Doc{doc("a", "1"), doc("a", longText)}, of("a:1")},
		{[]api.Doc{doc("a", "1"), doc("a", longText), doc("a", "2")}, of("a:2")},
		{[]api.Doc{doc("a", longText), doc("a", "1"), doc("", longText)}, of("a:1")},
		{[]api.Doc{doc(long[1:], longText[1:]), doc("\x00", "\x00")}, plain{{long[1:], true, longText[1:]}, {"\x00", true, "\x00"}}},
	} {
		what := "documents " + strconv.Itoa(i)
		table := mem.New(c.docs...)
		if table == nil {
			t.Fatal(what)
		}
		holds(t, what, table, c.want)
		answers(t, what, table.Put("new", []byte("text")), api.OK)
		answers(t, what, table.Delete("old"), api.OK)
		holds(t, what, table, append(c.want, of("new:text", "old")...))
	}
	holds(t, "no argument", mem.New(), nil)
}

func TestNewIsPutInOrder(t *testing.T) {
	for by := range 300 {
		d := draws(by)
		var docs []api.Doc
		var want plain
		for range d.below(20) {
			e := entry{d.one("", "a", "b", "c", strings.Repeat("k", api.MaxKey+1)), true, d.one("", "a", "ab", "b", strings.Repeat("t", api.MaxText+1))}
			docs = append(docs, doc(e.key, e.text))
			want, _ = want.tried(e)
		}
		holdsLists(t, fmt.Sprintf("%d: %.200q", by, docs), mem.New(docs...), want)
	}
}

// draws is numbers that look like none near them, always the same by the first one.
type draws uint64

// below is a number from 0 on that is below n.
func (d *draws) below(n int) int {
	*d = *d*6364136223846793005 + 1442695040888963407
	return int(uint64(*d)>>33) % n
}

// one is one of several texts.
func (d *draws) one(l ...string) string { return l[d.below(len(l))] }

// text is one of any length, now and then too long a one.
func (d *draws) text() string {
	n := []int{d.below(4), d.below(40), d.below(api.MaxText), api.MaxText + d.below(3)}[d.below(100)/32]
	var b strings.Builder
	for kinds := 1 + d.below(4); b.Len() < n; {
		b.WriteByte("ab\x00\xff"[d.below(kinds)])
	}
	return b.String()
}

// filled is tables of several kinds by what they hold.
func filled() []plain {
	return []plain{
		nil, of("a:text"), of("a"), of("a:"), of("b:ab", "a:ab", "c", "d"),
		{{strings.Repeat("k", api.MaxKey), true, strings.Repeat("a", api.MaxText)}, {strings.Repeat("l", api.MaxKey), false, ""}},
	}
}

func TestPutRefused(t *testing.T) {
	for i, p := range filled() {
		table := made(t, p)
		for _, key := range badKeys() {
			for _, text := range append(goodTexts(), badTexts()...) {
				answers(t, "Put of "+short(key)+" of "+short(text), table.Put(key, []byte(text)), api.ErrArg)
			}
			answers(t, "Put of "+short(key)+" of nil", table.Put(key, nil), api.ErrArg)
		}
		for _, key := range append(goodKeys(), "a", "b", "c", "d", strings.Repeat("l", api.MaxKey)) {
			for _, text := range badTexts() {
				answers(t, "Put of "+short(key)+" of "+short(text), table.Put(key, []byte(text)), api.ErrLong)
			}
		}
		holds(t, "refused "+strconv.Itoa(i), table, p)
	}
}

func TestPutTaken(t *testing.T) {
	for _, p := range filled() {
		for _, key := range goodKeys() {
			for i, text := range goodTexts() {
				what := "Put of " + short(key) + " of " + short(text)
				table, want := made(t, p), p.said(entry{key, true, text})
				answers(t, what, table.Put(key, []byte(text)), api.OK)
				holdsLists(t, what, table, want)
				gets(t, what, table, key, want)
				if i < 5 {
					holds(t, what, table, want)
				}
			}
		}
	}
	table := mem.New()
	answers(t, "Put of nil", table.Put("a", nil), api.OK)
	holds(t, "Put of nil", table, of("a:"))
}

func TestPutOver(t *testing.T) {
	for _, old := range append([]entry{{key: "k"}}, texted("k")...) {
		for _, text := range goodTexts() {
			what := "Put over " + short(old.text)
			table := made(t, append(of("a:other", "z"), old))
			answers(t, what, table.Put("k", []byte(text)), api.OK)
			want := append(of("a:other", "z"), entry{"k", true, text})
			holdsLists(t, what, table, want)
			gets(t, what, table, "k", want)
			finds(t, what, table, old.text, want)
			finds(t, what, table, text, want)
		}
	}
}

// texted is a key with each of the good texts.
func texted(key string) []entry {
	var l []entry
	for _, text := range goodTexts() {
		l = append(l, entry{key, true, text})
	}
	return l
}

func TestDeleteRefused(t *testing.T) {
	for i, p := range filled() {
		table := made(t, p)
		for _, key := range badKeys() {
			answers(t, "Delete of "+short(key), table.Delete(key), api.ErrArg)
		}
		holds(t, "refused "+strconv.Itoa(i), table, p)
	}
}

func TestDelete(t *testing.T) {
	for _, key := range goodKeys() {
		for _, before := range []plain{nil, {{key, true, "text"}}, {{key, true, ""}}, {{key, false, ""}}} {
			for _, beside := range []plain{nil, of("other:text"), of("other"), of("other:text", "another")} {
				what := fmt.Sprintf("Delete of %q from %v and %v", key, before, beside)
				table := made(t, slices.Concat(before, beside))
				answers(t, what, table.Delete(key), api.OK)
				gone := append(slices.Clone(beside), entry{key, false, ""})
				holds(t, what, table, gone)
				answers(t, what+", twice", table.Delete(key), api.OK)
				holds(t, what+", twice", table, gone)
				answers(t, what+", Put", table.Put(key, []byte("back")), api.OK)
				holds(t, what+", Put", table, append(slices.Clone(beside), entry{key, true, "back"}))
			}
		}
	}
}

// scripts gives each script of so many entries of a list.
func scripts(l []entry, n int, do func(script []entry)) {
	var more func(script []entry)
	more = func(script []entry) {
		do(script)
		if len(script) == n {
			return
		}
		for _, e := range l {
			more(append(slices.Clone(script), e))
		}
	}
	more(nil)
}

func TestAllShortScripts(t *testing.T) {
	scripts(of("a:x", "a:", "a", "b:xx", "b"), 5, func(script []entry) {
		var want plain
		for _, e := range script {
			want = want.said(e)
		}
		what := fmt.Sprint(script)
		table := made(t, script)
		holdsLists(t, what, table, want)
		for _, key := range []string{"a", "b", "c", ""} {
			gets(t, what, table, key, want)
		}
		finds(t, what, table, "x", want)
	})
}

func TestLongScripts(t *testing.T) {
	keys := append(goodKeys(), badKeys()[:3]...)
	for by := range 100 {
		d := draws(by)
		table, want := mem.New(), plain{}
		some := 1 + d.below(len(keys))
		for step := range 200 {
			e := entry{key: keys[(by+d.below(some))%len(keys)]}
			if d.below(3) > 0 {
				e.has, e.text = true, d.text()
			}
			var wantE api.Errno
			want, wantE = want.tried(e)
			what := fmt.Sprintf("script %d, step %d", by, step)
			answers(t, what, try(table, e), wantE)
			gets(t, what, table, e.key, want)
			if n := table.Len(); n != len(want) {
				t.Errorf("%s: Len: %d, want %d", what, n, len(want))
			}
		}
		holds(t, "script "+strconv.Itoa(by), table, want)
	}
}

// P12.2

func TestGet(t *testing.T) {
	table := made(t, of("a:text", "b:", "c", "d:over", "e:", "f"))
	for _, e := range of("d:text", "e", "f:") {
		answers(t, e.key, try(table, e), api.OK)
	}
	for key, want := range map[string]string{
		"a": "text true true", "b": " true true", "c": " false true", "d": "text true true", "e": " false true", "f": " true true",
		"g": " false false", "A": " false false", "aa": " false false", "a\x00": " false false", "": " false false",
		strings.Repeat("a", api.MaxKey): " false false", strings.Repeat("a", api.MaxKey+1): " false false",
	} {
		text, has, known := table.Get(key)
		if got := fmt.Sprint(string(text), " ", has, " ", known); got != want {
			t.Errorf("Get of %q: %s, want %s", key, got, want)
		}
	}
}

func TestFind(t *testing.T) {
	long := strings.Repeat("ab", api.MaxText/2)
	for i, c := range []struct {
		docs    plain
		pattern string
		want    string // each place as KEY@AT
	}{
		{of("b:aa", "c"), "a", "b@0 b@1"},
		{nil, "a", ""},
		{nil, "", ""},
		{of("a:"), "", ""},
		{of("a:text"), "", ""},
		{of("a:"), "a", ""},
		{of("a:banana"), "x", ""},
		{of("a:banana"), "nab", ""},
		{of("a:banana"), "A", ""},
		{of("a:banana"), "ban", "a@0"},
		{of("a:banana"), "b", "a@0"},
		{of("a:banana"), "nana", "a@2"},
		{of("a:banana"), "an", "a@1 a@3"},
		{of("a:banana"), "ana", "a@1 a@3"},
		{of("a:banana"), "a", "a@1 a@3 a@5"},
		{of("a:banana"), "banana", "a@0"},
		{of("a:banana"), "bananas", ""},
		{of("a:banana"), "abanana", ""},
		{of("a:anxan"), "an", "a@0 a@3"},
		{of("a:aaaa"), "aa", "a@0 a@1 a@2"},
		{of("a:aaaa"), "aaa", "a@0 a@1"},
		{of("a:aaaa"), "aaaa", "a@0"},
		{of("a:aaaa"), "aaaaa", ""},
		{of("a:abababa"), "aba", "a@0 a@2 a@4"},
		{of("a:aabaaabaaaba"), "aaba", "a@0 a@4 a@8"},
		{of("a:ab", "b:ba"), "bb", ""},
		{of("a:ab", "b:ba"), "abba", ""},
		{of("a:ab", "b:ba"), "a", "a@0 b@1"},
		{of("b:xay", "a:ay"), "ay", "a@0 b@1"},
		{of("c:xx", "a:x", "b:yx"), "x", "a@0 b@1 c@0 c@1"},
		{of("10:x", "2:x", "1:x", "B:x", "a:x", "aa:x", "b:x", "a\x00:x", "\x00:x"), "x", "\x00@0 1@0 10@0 2@0 B@0 a@0 a\x00@0 aa@0 b@0"},
		{of("\xff:x", "\x7f:x", "\x80:x", "\xc3\xa4:x", "\xff\x00:x", "z:x", "\xc3:x"), "x", "z@0 \x7f@0 \x80@0 \xc3@0 \xc3\xa4@0 \xff@0 \xff\x00@0"},
		{of("a:\x00\xff\x00\xff\x00"), "\x00\xff\x00", "a@0 a@2"},
		{of("a:\xc3\xa4"), "\xa4", "a@1"},
		{of("a:\xc3\xa4"), "\xc3", "a@0"},
		{of("a:\xff\xfe"), "\xef\xbf\xbd", ""},
		{of("a:x", "b"), "x", "a@0"},
		{of("ab:xy"), "ab", ""},
		{of("a:" + long), long, "a@0"},
		{of("a:" + long), long[1:], "a@1"},
		{of("a:" + long), long[2:], "a@0 a@2"},
		{of("a:" + long), long + "a", ""},
		{of("a:" + long), "ba" + long, ""},
	} {
		var got []string
		for _, m := range made(t, c.docs).Find([]byte(c.pattern)) {
			got = append(got, m.Key+"@"+strconv.Itoa(m.At))
		}
		if got := strings.Join(got, " "); got != c.want {
			t.Errorf("%d: Find of %s: %q, want %q", i, short(c.pattern), got, c.want)
		}
	}
}

func TestFindBehindChanges(t *testing.T) {
	table := made(t, of("b:needle", "a:a needle", "c:needles, needles"))
	for _, step := range []struct {
		do   entry
		want string
	}{
		{entry{"b", true, "nothing"}, "a@2 c@0 c@9"},
		{entry{"a", false, ""}, "c@0 c@9"},
		{entry{"c", true, "the needle"}, "c@4"},
		{entry{"a", true, "needle"}, "a@0 c@4"},
		{entry{"d", false, ""}, "a@0 c@4"},
		{entry{"d", true, "needle"}, "a@0 c@4 d@0"},
		{entry{"b", true, "xneedle"}, "a@0 b@1 c@4 d@0"},
		{entry{"c", true, ""}, "a@0 b@1 d@0"},
		{entry{"a", false, ""}, "b@1 d@0"},
		{entry{"b", false, ""}, "d@0"},
		{entry{"d", false, ""}, ""},
	} {
		answers(t, step.do.key, try(table, step.do), api.OK)
		var got []string
		for _, m := range table.Find([]byte("needle")) {
			got = append(got, m.Key+"@"+strconv.Itoa(m.At))
		}
		if got := strings.Join(got, " "); got != step.want {
			t.Errorf("behind %v: %q, want %q", step.do, got, step.want)
		}
	}
}

func TestFindInLongTexts(t *testing.T) {
	for _, text := range goodTexts() {
		table, want := made(t, plain{{"k", true, text}}), plain{{"k", true, text}}
		for _, n := range []int{1, 2, 3, 63, 64, 65, 1000, api.MaxText - 1, api.MaxText, api.MaxText + 1} {
			for _, one := range []string{"a", "ab", "ba", "\x00", "x", "y"} {
				pattern := strings.Repeat(one, n)[:n]
				for _, pattern := range []string{pattern, pattern[1:] + "y", "y" + pattern[1:], pattern + "b"} {
					finds(t, short(text), table, pattern, want)
				}
			}
		}
	}
}

// Any order of the same keys makes the same table, asked however often: no order of a map shows.
func TestOrder(t *testing.T) {
	var all plain
	for i, key := range goodKeys() {
		all = append(all, entry{key, i%3 > 0, ""})
		if all[i].has {
			all[i].text = "text " + strconv.Itoa(i)
		}
	}
	for by := range 50 {
		d := draws(by)
		mixed := slices.Clone(all)
		for i := range mixed {
			at := d.below(i + 1)
			mixed[i], mixed[at] = mixed[at], mixed[i]
		}
		table := made(t, mixed)
		for again := range 5 {
			what := fmt.Sprintf("order %d, asked %d", by, again)
			holdsLists(t, what, table, all)
			finds(t, what, table, "t", all)
		}
	}
}

func TestMany(t *testing.T) {
	table, want := mem.New(), plain{}
	for i := range 2000 {
		e := entry{strconv.Itoa(i * 7919 % 2000), i%4 > 0, ""}
		if e.has {
			e.text = strings.Repeat(strconv.Itoa(i), 3)
		}
		want = append(want, e)
		answers(t, e.key, try(table, e), api.OK)
	}
	holdsLists(t, "many", table, want)
	for _, pattern := range []string{"1", "12", "121", "1999", "999"} {
		finds(t, "many", table, pattern, want)
	}
	for i := range 2000 {
		key := strconv.Itoa(i)
		answers(t, key, table.Delete(key), api.OK)
		if n := table.Len(); n != 2000 {
			t.Fatalf("Len behind Delete of %s: %d", key, n)
		}
	}
	if docs, gone := table.Docs(), table.Gone(); len(docs) != 0 || len(gone) != 2000 || !slices.IsSorted(gone) {
		t.Errorf("all gone: %d, %d", len(docs), len(gone))
	}
}

// P12.3

// roomy is a list with spare room that holds something.
func roomy[T any](l []T, spare T) []T {
	return append(slices.Clone(l), spare, spare, spare)[: len(l) : len(l)+3]
}

// whole is a list and its spare room.
func whole[T any](l []T) []T { return l[:cap(l)] }

// fill makes all of a list another thing, its spare room too.
func fill[T any](l []T, v T) {
	for i := range whole(l) {
		whole(l)[i] = v
	}
}

// spared tells whether a list and its spare room are still those of roomy.
func spared[T any](l, was []T, spare T, same func(a, b T) bool) bool {
	return slices.EqualFunc(whole(l), append(slices.Clone(was), spare, spare, spare), same)
}

// sameByte tells whether bytes are the same.
func sameByte(a, b byte) bool { return a == b }

// sameDoc tells whether documents are the same.
func sameDoc(a, b api.Doc) bool { return a.Key == b.Key && bytes.Equal(a.Text, b.Text) }

// kept is tables that say several things of several keys.
func kept() []plain {
	return []plain{
		nil, of("a:text"), of("a:"), of("a"), of("b:ab", "a:abab", "c:", "e", "d"), of("a:same", "b:same"),
		{{"long", true, strings.Repeat("ab", api.MaxText/2)}, {"other", true, strings.Repeat("a", api.MaxText)}, {"gone", false, ""}},
	}
}

func TestTextsHandedIn(t *testing.T) {
	for i, p := range kept() {
		what := "Put " + strconv.Itoa(i)
		table := mem.New()
		for _, e := range p {
			text := roomy([]byte(e.text), 0xee)
			if e.has {
				answers(t, what, table.Put(e.key, text), api.OK)
			} else {
				answers(t, what, table.Delete(e.key), api.OK)
			}
			if !spared(text, []byte(e.text), 0xee, sameByte) {
				t.Errorf("%s: the text of %q was changed", what, e.key)
			}
			fill(text, 'x')
		}
		holds(t, what, table, p)
	}
}

func TestDocumentsHandedIn(t *testing.T) {
	for i, p := range kept() {
		what := "New " + strconv.Itoa(i)
		var docs, were []api.Doc
		for _, e := range p.rising(true) {
			docs = append(docs, api.Doc{Key: e.key, Text: roomy([]byte(e.text), 0xee)})
			were = append(were, doc(e.key, e.text))
		}
		docs = append(docs, doc("", "no key"), doc("a", strings.Repeat("x", api.MaxText+1)))
		were = append(were, docs[len(were):]...)
		docs = roomy(docs, doc("spare", "spare"))
		table := mem.New(docs...)
		if !spared(docs, were, doc("spare", "spare"), sameDoc) {
			t.Errorf("%s: the documents were changed", what)
		}
		for i, e := range p.rising(true) {
			if !spared(docs[i].Text, []byte(e.text), 0xee, sameByte) {
				t.Errorf("%s: the text of %q was changed", what, e.key)
			}
		}
		for _, d := range docs {
			fill(d.Text, 'x')
		}
		fill(docs, doc("other", "other"))
		holds(t, what, table, p.rising(true))
	}
}

// One text handed in for several keys is each one's own.
func TestOneTextForAll(t *testing.T) {
	text := []byte("one")
	table := mem.New(api.Doc{Key: "a", Text: text}, api.Doc{Key: "b", Text: text})
	answers(t, "Put", table.Put("c", text), api.OK)
	fill(text, 'x')
	answers(t, "Put", table.Put("d", text), api.OK)
	for _, d := range table.Docs() {
		fill(d.Text, 'y')
	}
	holds(t, "one text", table, of("a:one", "b:one", "c:one", "d:xxx"))
}

func TestRefusedHandedIn(t *testing.T) {
	table := made(t, of("a:text", "b"))
	for _, long := range []int{1, api.MaxText + 1} {
		text := roomy(bytes.Repeat([]byte("a"), long), 0xee)
		if table.Put("", text) == api.OK || long > 1 && table.Put("a", text) == api.OK {
			t.Error("not refused")
		}
		if !spared(text, bytes.Repeat([]byte("a"), long), 0xee, sameByte) {
			t.Error("a text that was refused was changed")
		}
	}
	holds(t, "refused", table, of("a:text", "b"))
}

func TestPatternsHandedIn(t *testing.T) {
	for i, p := range kept() {
		table := made(t, p)
		for _, was := range patterns(p) {
			pattern := roomy([]byte(was), 0xee)
			found := table.Find(pattern)
			if !spared(pattern, []byte(was), 0xee, sameByte) {
				t.Errorf("%d: Find changed %s", i, short(was))
			}
			fill(pattern, 'x')
			if !slices.Equal(found, p.find(was)) {
				t.Errorf("%d: what was found changed with %s", i, short(was))
			}
		}
		holds(t, "patterns "+strconv.Itoa(i), table, p)
	}
}

func TestAnsweredIsNew(t *testing.T) {
	for i, p := range kept() {
		what := "answers " + strconv.Itoa(i)
		table := made(t, p)
		for _, e := range p {
			one, _, _ := table.Get(e.key)
			other, _, _ := table.Get(e.key)
			if fill(one, 'x'); string(other) != e.text {
				t.Errorf("%s: two Gets of %q share", what, e.key)
			}
			holds(t, what+", Get", table, p)
		}
		for _, pattern := range patterns(p) {
			one, other := table.Find([]byte(pattern)), table.Find([]byte(pattern))
			if fill(one, api.Match{Key: "x", At: -1}); !slices.Equal(other, p.find(pattern)) {
				t.Errorf("%s: two Finds of %s share", what, short(pattern))
			}
		}
		one, other := table.Gone(), table.Gone()
		if fill(one, "x"); !slices.Equal(other, table.Gone()) {
			t.Errorf("%s: two of Gone share", what)
		}
		holds(t, what, table, p)
	}
}

// Each list of what Docs answers is overwritten, spare room too: no other one is changed by that.
func TestDocsAreNew(t *testing.T) {
	for i, p := range kept() {
		what := "Docs " + strconv.Itoa(i)
		table, want := made(t, p), p.rising(true)
		for at := range want {
			docs, others := table.Docs(), table.Docs()
			fill(docs[at].Text, 'x')
			for j, e := range want {
				if j != at && string(docs[j].Text) != e.text || string(others[j].Text) != e.text {
					t.Errorf("%s: the text of %q shares with that of %q", what, want[at].key, e.key)
				}
			}
			fill(docs, doc("x", "x"))
			for j, e := range want {
				if others[j].Key != e.key || string(others[j].Text) != e.text {
					t.Errorf("%s: two of Docs share %q", what, e.key)
				}
			}
		}
		holds(t, what, table, p)
	}
}

// What was answered stays what it is, whatever is done to the table.
func TestAnsweredStays(t *testing.T) {
	for i, p := range kept() {
		table, other := made(t, p), made(t, p)
		text, _, _ := table.Get("a")
		found, docs, gone := table.Find([]byte("a")), table.Docs(), table.Gone()
		for _, e := range append(p, of("a:xxxx", "aa", "new:abab")...) {
			answers(t, e.key, table.Delete(e.key), api.OK)
			answers(t, e.key, table.Put(e.key, []byte("other")), api.OK)
		}
		want, _, _ := p.get("a")
		if string(text) != want || !slices.Equal(found, p.find("a")) || !slices.EqualFunc(docs, other.Docs(), sameDoc) || !slices.Equal(gone, other.Gone()) {
			t.Errorf("%d: what was answered is another thing now", i)
		}
		holds(t, "another table", other, p)
	}
}

// Nothing that is asked changes a table.
func TestAskedAgain(t *testing.T) {
	for i, p := range append(kept(), filled()...) {
		table := made(t, p)
		for range 3 {
			holds(t, "table "+strconv.Itoa(i), table, p)
		}
	}
}

func TestNilTable(t *testing.T) {
	var table *mem.Table
	for _, key := range append(goodKeys(), badKeys()...) {
		for _, text := range append(goodTexts(), badTexts()...) {
			answers(t, "Put", table.Put(key, []byte(text)), api.ErrArg)
		}
		answers(t, "Put of nil", table.Put(key, nil), api.ErrArg)
		answers(t, "Delete", table.Delete(key), api.ErrArg)
		gets(t, "nil", table, key, nil)
	}
	holds(t, "nil", table, nil)
}

// A Table that New did not make is one of nothing.
func TestZeroTable(t *testing.T) {
	holds(t, "zero", new(mem.Table), nil)
	for _, e := range of("a:text", "a") {
		table := new(mem.Table)
		answers(t, "zero", try(table, e), api.OK)
		holds(t, "zero", table, plain{e})
	}
}
