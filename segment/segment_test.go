package segment_test

import (
	"bytes"
	"encoding/binary"
	"hash/crc32"
	"math"
	"slices"
	"strconv"
	"strings"
	"testing"

	"haystack/api"
	"haystack/bwt"
	"haystack/fm"
	"haystack/segment"
)

const most = api.MaxFrame - 64 // bytes that a record may hold

// plain is documents and keys that are gone, both by keys: what a segment is held against.
type plain struct {
	docs []api.Doc
	gone []string
}

// named is a plain one with a name.
type named struct {
	name string
	plain
}

// of is documents, each by its key and its text, parted by a colon.
func of(docs ...string) plain {
	var p plain
	for _, doc := range docs {
		key, text, _ := strings.Cut(doc, ":")
		p.docs = append(p.docs, api.Doc{Key: key, Text: []byte(text)})
	}
	return p
}

// without is documents, and keys that are gone beside them.
func (p plain) without(gone ...string) plain {
	return plain{p.docs, slices.Sorted(slices.Values(gone))}
}

// muddle is a number that looks like none near it.
func muddle(i int) int {
	v := (uint64(i) + 1) * 0x9e3779b97f4a7c15
	v = (v ^ v>>29) * 0xbf58476d1ce4e5b9
	return int((v ^ v>>32) >> 1)
}

// text is so many bytes, of so many kinds, by a number.
func text(by, long, kinds int) []byte {
	b := make([]byte, long)
	for i := range b {
		b[i] = "ab\x00\xff\x01\xfexyz0123456789"[muddle(by*100003+i)%kinds]
	}
	return b
}

// keysOf is so many keys, each of so many bytes, rising.
func keysOf(n, long int) []string {
	keys := make([]string, n)
	for i := range keys {
		number := strconv.Itoa(i)
		keys[i] = strings.Repeat("0", long-len(number)) + number
	}
	return keys
}

// docsOf is a document of each of these lengths.
func docsOf(longs ...int) plain {
	var p plain
	for i, key := range keysOf(len(longs), 6) {
		p.docs = append(p.docs, api.Doc{Key: key, Text: text(i, longs[i], 3)})
	}
	return p
}

// cases is documents of many kinds.
func cases() []named {
	long, longer := strings.Repeat("k", api.MaxKey), strings.Repeat("\xff", api.MaxKey)
	var bytesAll plain
	for i := range 256 {
		bytesAll.docs = append(bytesAll.docs, api.Doc{Key: string([]byte{byte(i)}), Text: []byte{byte(255 - i)}})
	}
	l := []named{
		{"nothing", of()},
		{"one", of("a:text")},
		{"one without a byte", of("a:")},
		{"the chapter's example", of("a:ay", "b:xay").without("c")},
		{"many without a byte", of("a:", "b:", "c:", "d:", "e:", "f:", "g:", "h:", "i:")},
		{"some without a byte", of("a:", "b:ab", "c:", "d:", "e:ba", "f:")},
		{"keys that begin others", of("a:aa", "a\x00:b", "aa:a", "aaa:ab", "ab:bb", "b:aba")},
		{"keys of any bytes", of("\x00:a", "\x00\x00:ab", "\x00\xff:b", "\x01:aab", "z:ba", "\x7f:bb", "\x80:abab", "\xc3\xa9:a", "\xff:bab", "\xff\x00:aa", "\xff\xff:b")},
		{"each byte a key", bytesAll},
		{"texts of any bytes", of("a:\x00\xff\x00", "b:\xff\x00\xff", "c:\x00\x00\xff\xff", "d:\x01\x02\x03", "e:\xfd\xfe\xff")},
		{"texts alike", of("a:abab", "b:abab", "c:abab", "d:abab")},
		{"texts as their keys", of("a:a", "b:b", "c:c")},
		{"the longest keys", of(long[1:]+":a", long+":ab", longer+":b")},
		{"one gone", of().without("a")},
		{"many gone", of().without("\x00", "\x00\x00", "a", "a\x00", "aa", "b", long, "\xff", longer)},
		{"gone beside documents", of("b:abc", "d:bcd", "f:").without("a", "bb", "c", "e", "g")},
		{"gone ahead", of("c:abc").without("a", "b")},
		{"gone behind", of("a:abc").without("b", "c")},
		{"a gone key that begins a document's", of("aa:ab").without("a", "aaa")},
	}
	for _, n := range []int{2, 7, 8, 9, 40} {
		for kinds := 1; kinds < 5; kinds++ {
			p := plain{gone: keysOf(n, 4)}
			for i, key := range keysOf(n, 3) {
				p.docs = append(p.docs, api.Doc{Key: key, Text: text(i, muddle(i)%30, kinds)})
			}
			l = append(l, named{strconv.Itoa(n) + " of " + strconv.Itoa(kinds) + " kinds of bytes", p})
		}
	}
	return l
}

// texts is those of the documents.
func (p plain) texts() [][]byte {
	var l [][]byte
	for _, doc := range p.docs {
		l = append(l, doc.Text)
	}
	return l
}

// keys is those of the documents.
func (p plain) keys() []string {
	var l []string
	for _, doc := range p.docs {
		l = append(l, doc.Key)
	}
	return l
}

// get goes through the documents.
func (p plain) get(key string) (text []byte, has, known bool) {
	for _, doc := range p.docs {
		if doc.Key == key {
			return doc.Text, true, true
		}
	}
	return nil, false, slices.Contains(p.gone, key)
}

// find goes through the texts.
func (p plain) find(pattern []byte) []api.Match {
	var l []api.Match
	for _, doc := range p.docs {
		for at := 0; len(pattern) > 0 && at+len(pattern) <= len(doc.Text); at++ {
			if bytes.HasPrefix(doc.Text[at:], pattern) {
				l = append(l, api.Match{Key: doc.Key, At: at})
			}
		}
	}
	return l
}

// turned is the turned row of texts.
func turned(texts ...[]byte) []int {
	row := []int{}
	for _, text := range texts {
		for _, b := range text {
			row = append(row, int(b)+2)
		}
		row = append(row, 1)
	}
	l, _ := bwt.Turn(append(row, 0)...)
	return l
}

// parts is what a record is made of.
type parts struct {
	mark   string
	docs   uint64 // how many documents it tells
	keys   []string
	gones  uint64 // how many keys it tells that are gone
	gone   []string
	syms   uint64 // how many symbols it tells
	row    []int
	behind string
}

// parts is those of its record.
func (p plain) parts() parts {
	row := turned(p.texts()...)
	return parts{"\x53\x01", uint64(len(p.docs)), p.keys(), uint64(len(p.gone)), p.gone, uint64(len(row)), row, ""}
}

// body is what a record of these parts holds, by the chapter's words.
func (x parts) body() []byte {
	b := []byte(x.mark)
	lay := func(n uint64, keys []string) {
		b = binary.AppendUvarint(b, n)
		for _, key := range keys {
			b = append(binary.AppendUvarint(b, uint64(len(key))), key...)
		}
	}
	lay(x.docs, x.keys)
	lay(x.gones, x.gone)
	b = binary.AppendUvarint(b, x.syms)
	for _, c := range x.row {
		b = binary.AppendUvarint(b, uint64(c))
	}
	return append(b, x.behind...)
}

// sealed is bytes with their Sum behind them.
func sealed(b ...[]byte) []byte {
	all := slices.Concat(b...)
	return binary.LittleEndian.AppendUint32(all, crc32.ChecksumIEEE(all))
}

// record is a record whose Sums are right.
func record(body []byte) []byte {
	return sealed(sealed(binary.LittleEndian.AppendUint32(nil, uint32(len(body)))), body)
}

// record is that of these documents, by the chapter's words.
func (p plain) record() []byte { return record(p.parts().body()) }

// made is a segment that there must be.
func made(t *testing.T, name string, p plain) *segment.Segment {
	t.Helper()
	s, e := segment.New(p.docs, p.gone...)
	if s == nil || e != api.OK {
		t.Fatalf("%s: New: %v", name, e)
	}
	return s
}

// decoded is a segment that there must be.
func decoded(t *testing.T, name string, b []byte) *segment.Segment {
	t.Helper()
	s, e := segment.Decode(b)
	if s == nil || e != api.OK {
		t.Fatalf("%s: Decode: %v", name, e)
	}
	return s
}

// merged is a segment that there must be.
func merged(t *testing.T, name string, last bool, l ...*segment.Segment) *segment.Segment {
	t.Helper()
	s, e := segment.Merge(last, l...)
	if s == nil || e != api.OK {
		t.Fatalf("%s: Merge: %v", name, e)
	}
	return s
}

// refused tells of anything answered but an error.
func refused(t *testing.T, name string, want api.Errno) func(s *segment.Segment, e api.Errno) {
	return func(s *segment.Segment, e api.Errno) {
		t.Helper()
		if s != nil || e != want {
			t.Errorf("%s: a segment: %t, %v, want %v", name, s != nil, e, want)
		}
	}
}

// some is all places of a list, but of many a part.
func some(n int) []int {
	var l []int
	for at := 0; at < n; at += 1 + n/300*7 {
		l = append(l, at)
	}
	return l
}

// asked is keys: those that are there, those next to them, and others.
func asked(p plain) []string {
	l := []string{"", "\x00", "a", "b", "c", "ay", "\xff", strings.Repeat("k", api.MaxKey+1), strings.Repeat("\xff", 1000)}
	all := append(p.keys(), p.gone...)
	for _, at := range some(len(all)) {
		key := all[at]
		l = append(l, key, key+"\x00", key+"a", key[:len(key)-1], key[:len(key)-1]+"\xff", "\x00"+key)
	}
	return l
}

// patterns is what is sought in texts: what stands there, what nearly does, and what does across two of them only.
func patterns(texts [][]byte) [][]byte {
	l := [][]byte{nil, {}, {0}, {1}, {'a'}, {'b'}, {255}, {0, 255}, {'a', 'a'}, {'a', 'b'}, {'a', 1, 'a'}, {'a', 'y'}, make([]byte, api.MaxAll+1)}
	for doc := 0; doc < len(texts); doc += 1 + len(texts)/10 {
		text := texts[doc]
		l = append(l, text, append(slices.Clone(text), 'a'), append([]byte{0}, text...))
		for _, from := range []int{0, 1, 2, len(text) - 3, len(text) - 1} {
			for _, long := range []int{1, 2, 3, 9} {
				if from >= 0 && from+long <= len(text) {
					l = append(l, text[from:from+long])
				}
			}
		}
		if doc > 0 {
			ahead := texts[doc-1]
			l = append(l, slices.Concat(ahead, text), slices.Concat(ahead[len(ahead)/2:], text[:len(text)/2]), slices.Concat(ahead, []byte{1}, text))
		}
	}
	slices.SortFunc(l, bytes.Compare)
	return slices.CompactFunc(l, bytes.Equal)
}

// holds tells of a segment that is not these documents, by all that may be asked of it.
func holds(t *testing.T, name string, s *segment.Segment, p plain) {
	t.Helper()
	if keys, gone := s.Keys(), s.Gone(); !slices.Equal(keys, p.keys()) || !slices.Equal(gone, p.gone) {
		t.Fatalf("%s: %d keys, %d gone, want %d, %d: %.99q, %.99q", name, len(keys), len(gone), len(p.docs), len(p.gone), keys, gone)
	}
	for _, key := range asked(p) {
		gets(t, name, s, key, p)
	}
	for _, pattern := range patterns(p.texts()) {
		finds(t, name, s, pattern, p)
	}
	if !bytes.Equal(s.Encode(), p.record()) {
		t.Errorf("%s: Encode is not the record by the chapter's words", name)
	}
	indexes(t, name, s, p)
}

// gets tells of a key of which something else is said than by the plain documents.
func gets(t *testing.T, name string, s *segment.Segment, key string, p plain) {
	t.Helper()
	text, has, known := s.Get(key)
	if want, wantHas, wantKnown := p.get(key); !bytes.Equal(text, want) || has != wantHas || known != wantKnown {
		t.Errorf("%s: Get(%q): %.99q, %t, %t, want %.99q, %t, %t", name, key, text, has, known, want, wantHas, wantKnown)
	}
}

// finds tells of a pattern that is found elsewhere than in the plain texts.
func finds(t *testing.T, name string, s *segment.Segment, pattern []byte, p plain) {
	t.Helper()
	want := p.find(pattern)
	if got := s.Find(pattern); !slices.Equal(got, want) {
		t.Errorf("%s: Find(%.99q): %d places, want %d: %v, want %v", name, pattern, len(got), len(want), got[:min(len(got), 9)], want[:min(len(want), 9)])
	}
}

// indexes tells of a segment that answers otherwise than an index of the texts, by their keys.
func indexes(t *testing.T, name string, s *segment.Segment, p plain) {
	t.Helper()
	x, e := fm.Build(p.texts()...)
	if e != api.OK {
		t.Fatalf("%s: Build: %v", name, e)
	}
	if s.Docs() != x.Docs() || !slices.Equal(s.Turned(), x.Turned()) || !slices.Equal(s.Index.Turned(), x.Turned()) {
		t.Errorf("%s: Docs or Turned is not that of Build", name)
	}
	for _, doc := range append(some(len(p.docs)), math.MinInt, -1, len(p.docs)-1, len(p.docs), math.MaxInt) {
		if s.Len(doc) != x.Len(doc) || !bytes.Equal(s.Extract(doc, 0, api.MaxText), x.Extract(doc, 0, api.MaxText)) || !bytes.Equal(s.Extract(doc, 1, 2), x.Extract(doc, 1, 2)) {
			t.Errorf("%s: Len or Extract of %d is not that of Build", name, doc)
		}
	}
	for _, pattern := range patterns(p.texts()) {
		if s.Count(pattern) != x.Count(pattern) || !slices.Equal(s.Locate(pattern), x.Locate(pattern)) {
			t.Errorf("%s: Count or Locate of %.99q is not that of Build", name, pattern)
		}
	}
}

// orders gives a list in several orders, a short one in all.
func orders[T any](l []T, do func(l []T)) {
	if len(l) <= 4 {
		permute(nil, l, do)
		return
	}
	do(l)
	for step := 1; step < len(l); step += 1 + len(l)/3 {
		do(slices.Concat(l[step:], l[:step]))
	}
	turned := slices.Clone(l)
	slices.Reverse(turned)
	do(turned)
	for by := range 3 {
		mixed := slices.Clone(l)
		for i := range mixed {
			at := muddle(by*1000+i) % (i + 1)
			mixed[i], mixed[at] = mixed[at], mixed[i]
		}
		do(mixed)
	}
}

// permute gives each order of what is left behind what stands first.
func permute[T any](first, left []T, do func(l []T)) {
	if len(left) == 0 {
		do(first)
	}
	for i, one := range left {
		permute(append(slices.Clone(first), one), slices.Delete(slices.Clone(left), i, i+1), do)
	}
}

// P9.1

func TestNew(t *testing.T) {
	for _, c := range cases() {
		holds(t, c.name, made(t, c.name, c.plain), c.plain)
	}
}

func TestNewInAnyOrder(t *testing.T) {
	for _, c := range cases() {
		orders(c.docs, func(docs []api.Doc) {
			orders(c.gone, func(gone []string) {
				s := made(t, c.name, plain{docs, gone})
				if !slices.Equal(s.Keys(), c.keys()) || !slices.Equal(s.Gone(), c.gone) || !bytes.Equal(s.Encode(), c.record()) {
					t.Errorf("%s: another segment by the order: %q, %q", c.name, s.Keys(), s.Gone())
				}
			})
		})
	}
}

func TestNewOfNothing(t *testing.T) {
	for _, docs := range [][]api.Doc{nil, {}} {
		for _, gone := range [][]string{nil, {}} {
			s, e := segment.New(docs, gone...)
			if e != api.OK {
				t.Fatal(e)
			}
			holds(t, "nothing", s, plain{})
		}
	}
}

// badKeys is keys that are none.
func badKeys() []string {
	return []string{"", strings.Repeat("k", api.MaxKey+1), strings.Repeat("\x00", api.MaxKey+1), strings.Repeat("\xff", api.MaxKey+1), strings.Repeat("k", 2*api.MaxKey), strings.Repeat("k", api.MaxKey+256), strings.Repeat("k", 1<<20)}
}

func TestKeysThatAreNone(t *testing.T) {
	for _, key := range badKeys() {
		name := "a key of " + strconv.Itoa(len(key)) + " bytes"
		bad := api.Doc{Key: key, Text: []byte("text")}
		for _, l := range []plain{{}, of("a:aa"), of("a:aa", "l:ab"), of("a:aa").without("b", "m")} {
			for at := range len(l.docs) + 1 {
				refused(t, name, api.ErrArg)(segment.New(slices.Insert(slices.Clone(l.docs), at, bad), l.gone...))
			}
			for at := range len(l.gone) + 1 {
				refused(t, name+", gone", api.ErrArg)(segment.New(l.docs, slices.Insert(slices.Clone(l.gone), at, key)...))
			}
			refused(t, name+", both", api.ErrArg)(segment.New(append(slices.Clone(l.docs), bad), append(slices.Clone(l.gone), key)...))
		}
	}
}

func TestKeysOfJustManyBytes(t *testing.T) {
	for _, n := range []int{1, 2, api.MaxKey - 1, api.MaxKey} {
		for _, b := range []string{"\x00", "k", "\xff"} {
			name := strconv.Itoa(n) + " bytes " + strconv.Quote(b)
			key := strings.Repeat(b, n)
			p := plain{docs: []api.Doc{{Key: key, Text: []byte("text")}}}
			holds(t, name, made(t, name, p), p)
			p = plain{gone: []string{key}}
			holds(t, name+", gone", made(t, name, p), p)
		}
	}
}

func TestKeysTwice(t *testing.T) {
	for _, key := range []string{"\x00", "a", "ab", "m", "\xff", strings.Repeat("k", api.MaxKey)} {
		one, other := api.Doc{Key: key, Text: []byte("one")}, api.Doc{Key: key, Text: []byte("other")}
		for _, l := range []plain{{}, of("aa:b", "c:d"), of("aa:", "k:").without("b", "z")} {
			name := strconv.Quote(key) + " beside " + strconv.Itoa(len(l.docs)) + " documents, "
			orders(append(slices.Clone(l.docs), one, other), func(docs []api.Doc) {
				refused(t, name+"twice", api.ErrArg)(segment.New(docs, l.gone...))
			})
			refused(t, name+"just the same twice", api.ErrArg)(segment.New(append(slices.Clone(l.docs), one, one), l.gone...))
			orders(append(slices.Clone(l.gone), key, key), func(gone []string) {
				refused(t, name+"twice gone", api.ErrArg)(segment.New(l.docs, gone...))
			})
			orders(append(slices.Clone(l.docs), one), func(docs []api.Doc) {
				orders(append(slices.Clone(l.gone), key), func(gone []string) {
					refused(t, name+"in both", api.ErrArg)(segment.New(docs, gone...))
				})
			})
		}
	}
}

func TestTextsOfMaxText(t *testing.T) {
	for _, l := range [][]int{{api.MaxText}, {api.MaxText - 1}, {3, api.MaxText, 0, 5}, {api.MaxText, api.MaxText, api.MaxText}} {
		name := "texts of " + strconv.Itoa(l[0]) + " bytes"
		p := docsOf(l...)
		holds(t, name, made(t, name, p), p)
	}
	for _, l := range [][]int{{api.MaxText + 1}, {0, api.MaxText + 1, 0}, {api.MaxText, api.MaxText, api.MaxText + 1}, {2 * api.MaxText}, {api.MaxAll - 2}, {api.MaxAll}, {1 << 24}} {
		orders(docsOf(l...).docs, func(docs []api.Doc) {
			refused(t, "a text that is too long", api.ErrLong)(segment.New(docs))
			refused(t, "a text that is too long, keys gone", api.ErrLong)(segment.New(docs, "gone"))
		})
	}
}

// great is documents whose row has just so many symbols.
func great(n int) []named {
	full := n / (api.MaxText + 1)
	longs := append(slices.Repeat([]int{api.MaxText}, full), n-2-full*(api.MaxText+1))
	l := []named{
		{"long texts", docsOf(longs...)},
		{"texts without a byte", docsOf(make([]int, n-1)...)},
		{"short texts", docsOf(append(slices.Repeat([]int{3}, (n-2)/4), (n-2)%4)...)},
	}
	l[0].gone = []string{"gone"}
	return l
}

func TestTextsOfMaxAll(t *testing.T) {
	for _, n := range []int{api.MaxAll - 1, api.MaxAll} {
		for _, c := range great(n) {
			name := c.name + ", " + strconv.Itoa(n) + " symbols"
			if len(turned(c.texts()...)) != n {
				t.Fatalf("%s: %d", name, len(turned(c.texts()...)))
			}
			holds(t, name, made(t, name, c.plain), c.plain)
		}
	}
	for _, n := range []int{api.MaxAll + 1, api.MaxAll + 2, 2 * api.MaxAll} {
		for _, c := range great(n) {
			refused(t, c.name+", "+strconv.Itoa(n)+" symbols", api.ErrLong)(segment.New(c.docs, c.gone...))
		}
	}
}

// filled is documents with keys that are gone, so many that their record holds just so many bytes.
func filled(p plain, n int) plain {
	full := slices.Clone(p.gone)
	left := n - len(p.parts().body()) - 1 // of some thousands of keys one byte more than of few is needed to tell how many there are
	gone := keysOf(left/(api.MaxKey+1)-1, api.MaxKey)
	left -= len(gone) * (api.MaxKey + 1)
	half := left / 2
	full = append(full, gone...)
	full = append(full, strings.Repeat("x", half-1), strings.Repeat("y", left-half-1))
	return plain{p.docs, full}
}

func TestRecordsOfMaxFrame(t *testing.T) {
	for _, p := range []plain{{}, of("z:text"), docsOf(api.MaxText, 0, 17), great(api.MaxAll)[1].plain} {
		for _, n := range []int{most - 1, most} {
			name := strconv.Itoa(n) + " bytes"
			just := filled(p, n)
			if long := len(just.parts().body()); long != n {
				t.Fatalf("%s: %d", name, long)
			}
			holds(t, name, made(t, name, just), just)
		}
		for _, n := range []int{most + 1, most + 2, api.MaxFrame - 1, api.MaxFrame, api.MaxFrame + 1} {
			l := filled(p, n)
			if long := len(l.parts().body()); long != n {
				t.Fatalf("%d bytes: %d", n, long)
			}
			refused(t, strconv.Itoa(n)+" bytes", api.ErrLong)(segment.New(l.docs, l.gone...))
		}
	}
}

// Keys alone may be too many, of documents too.
func TestRecordsOfManyKeys(t *testing.T) {
	var docs []api.Doc
	for _, key := range keysOf(20000, api.MaxKey) {
		docs = append(docs, api.Doc{Key: key})
	}
	refused(t, "long keys", api.ErrLong)(segment.New(docs))
	p := plain{docs: docs[:15000]}
	holds(t, "fewer long keys", made(t, "fewer long keys", p), p)
	refused(t, "keys that are gone", api.ErrLong)(segment.New(nil, keysOf(300000, 6)...))
}

// P9.1: ErrArg comes ahead of ErrLong.
func TestErrorsInOrder(t *testing.T) {
	tooMuch := []plain{docsOf(api.MaxText + 1), great(api.MaxAll + 1)[0].plain, filled(plain{}, most+1), filled(docsOf(api.MaxText+1), most+1)}
	for i, p := range tooMuch {
		name := "too much " + strconv.Itoa(i)
		refused(t, name, api.ErrLong)(segment.New(p.docs, p.gone...))
		for _, key := range badKeys() {
			bad := api.Doc{Key: key}
			refused(t, name+", no key first", api.ErrArg)(segment.New(append([]api.Doc{bad}, p.docs...), p.gone...))
			refused(t, name+", no key last", api.ErrArg)(segment.New(append(slices.Clone(p.docs), bad), p.gone...))
			refused(t, name+", no key gone", api.ErrArg)(segment.New(p.docs, append(slices.Clone(p.gone), key)...))
		}
		twice := api.Doc{Key: "twice"}
		refused(t, name+", a key twice", api.ErrArg)(segment.New(append(slices.Clone(p.docs), twice, twice), p.gone...))
		refused(t, name+", a key twice gone", api.ErrArg)(segment.New(p.docs, append(slices.Clone(p.gone), "twice", "twice")...))
		refused(t, name+", a key in both", api.ErrArg)(segment.New(append(slices.Clone(p.docs), twice), append(slices.Clone(p.gone), "twice")...))
	}
	bad := api.Doc{Key: "", Text: make([]byte, api.MaxText+1)}
	refused(t, "one document that is both", api.ErrArg)(segment.New([]api.Doc{bad}))
}

// P9.2

func TestExample(t *testing.T) {
	s, e := segment.New([]api.Doc{{Key: "b", Text: []byte("xay")}, {Key: "a", Text: []byte("ay")}}, "c")
	if e != api.OK {
		t.Fatal(e)
	}
	if l := s.Find([]byte("ay")); !slices.Equal(l, []api.Match{{Key: "a", At: 0}, {Key: "b", At: 1}}) || s.Count([]byte("ay")) != 2 {
		t.Error(l, s.Count([]byte("ay")))
	}
}

func TestGet(t *testing.T) {
	s := made(t, "told", of("\x00:zero", "a:text", "ab:", "b:other", "\xff:last").without("aa", "c", "c\x00"))
	for _, c := range []struct {
		key, text  string
		has, known bool
	}{
		{"a", "text", true, true}, {"ab", "", true, true}, {"b", "other", true, true}, {"\x00", "zero", true, true}, {"\xff", "last", true, true},
		{"aa", "", false, true}, {"c", "", false, true}, {"c\x00", "", false, true},
		{"", "", false, false}, {"A", "", false, false}, {"aaa", "", false, false}, {"a\x00", "", false, false}, {"abc", "", false, false}, {"d", "", false, false},
		{"\x00\x00", "", false, false}, {"\xff\xff", "", false, false}, {"c\x00\x00", "", false, false}, {"text", "", false, false}, {strings.Repeat("a", api.MaxKey+1), "", false, false},
	} {
		if text, has, known := s.Get(c.key); string(text) != c.text || has != c.has || known != c.known {
			t.Errorf("Get(%q): %q, %t, %t, want %q, %t, %t", c.key, text, has, known, c.text, c.has, c.known)
		}
	}
}

func TestFind(t *testing.T) {
	s := made(t, "told", of("a:", "ab:abab", "b:xx", "c:ab", "cc:ba", "\xff:aba\x00").without("aa"))
	for _, c := range []struct {
		pattern string
		want    []api.Match
	}{
		{"ab", []api.Match{{Key: "ab", At: 0}, {Key: "ab", At: 2}, {Key: "c", At: 0}, {Key: "\xff", At: 0}}},
		{"ba", []api.Match{{Key: "ab", At: 1}, {Key: "cc", At: 0}, {Key: "\xff", At: 1}}},
		{"x", []api.Match{{Key: "b", At: 0}, {Key: "b", At: 1}}},
		{"aba", []api.Match{{Key: "ab", At: 0}, {Key: "\xff", At: 0}}},
		{"abab", []api.Match{{Key: "ab", At: 0}}},
		{"\x00", []api.Match{{Key: "\xff", At: 3}}},
		{"xxab", nil}, {"xab", nil}, {"abba", nil}, {"bab\x00", nil}, {"z", nil}, {"", nil}, {"ababx", nil}, {"\xff", nil}, {"c", nil},
	} {
		if l := s.Find([]byte(c.pattern)); !slices.Equal(l, c.want) {
			t.Errorf("Find(%q): %v, want %v", c.pattern, l, c.want)
		}
	}
}

func TestFindAllShort(t *testing.T) {
	for _, c := range cases() {
		s := made(t, c.name, c.plain)
		for n, all := 0, 1; n <= 3; n, all = n+1, all*6 {
			for which := range all {
				pattern := make([]byte, n)
				for i, left := 0, which; i < n; i, left = i+1, left/6 {
					pattern[i] = "\x00\x01abx\xff"[left%6]
				}
				finds(t, c.name, s, pattern, c.plain)
			}
		}
	}
}

// P9.3

func TestEncodeTold(t *testing.T) {
	long := strings.Repeat("k", api.MaxKey)
	for _, c := range []struct {
		plain
		body string
	}{
		{of(), "\x53\x01\x00\x00\x01\x00"},
		{of("a:"), "\x53\x01\x01\x01a\x00\x02\x01\x00"},
		{of("a:a"), "\x53\x01\x01\x01a\x00\x03\x01\x63\x00"},
		{of("a:\xff"), "\x53\x01\x01\x01a\x00\x03\x01\x81\x02\x00"},
		{of("a:\x7d", "b:\x7e"), "\x53\x01\x02\x01a\x01b\x00\x05\x01\x80\x01\x7f\x00\x01"},
		{of().without("b"), "\x53\x01\x00\x01\x01b\x01\x00"},
		{of().without("\x00", "b\xff"), "\x53\x01\x00\x02\x01\x00\x02b\xff\x01\x00"},
		{of("b:", "c\x00:").without("a"), "\x53\x01\x02\x01b\x02c\x00\x01\x01a\x03\x01\x01\x00"},
		{of(long + ":").without(long[1:]), "\x53\x01\x01\x40" + long + "\x01\x3f" + long[1:] + "\x02\x01\x00"},
	} {
		s := made(t, "told", c.plain)
		if b := s.Encode(); !bytes.Equal(b, record([]byte(c.body))) {
			t.Errorf("Encode of %q, %q: % x, want % x", c.docs, c.gone, b, record([]byte(c.body)))
		}
		holds(t, "told", decoded(t, "told", record([]byte(c.body))), c.plain)
	}
}

func TestDecodeOfEncode(t *testing.T) {
	for _, c := range cases() {
		b := made(t, c.name, c.plain).Encode()
		s := decoded(t, c.name, b)
		holds(t, c.name, s, c.plain)
		if !bytes.Equal(s.Encode(), b) {
			t.Errorf("%s: another Encode behind Decode", c.name)
		}
		holds(t, c.name+", by words", decoded(t, c.name, c.record()), c.plain)
	}
}

func TestDecodeOfWhatIsNotWhole(t *testing.T) {
	refused(t, "nil", api.ErrForm)(segment.Decode(nil))
	refused(t, "no byte", api.ErrForm)(segment.Decode([]byte{}))
	for _, c := range cases() {
		b := c.record()
		for n := range b {
			refused(t, c.name+", "+strconv.Itoa(n)+" bytes", api.ErrForm)(segment.Decode(b[:n]))
			refused(t, c.name+", all but the first "+strconv.Itoa(n+1), api.ErrForm)(segment.Decode(b[n+1:]))
			for _, by := range []byte{1, 2, 0x10, 0x40, 0x80, 0xff} {
				other := slices.Clone(b)
				other[n] ^= by
				refused(t, c.name+", another byte at "+strconv.Itoa(n), api.ErrForm)(segment.Decode(other))
			}
		}
		for _, behind := range [][]byte{{0}, {1}, {255}, make([]byte, 12), b, []byte("text")} {
			refused(t, c.name+", more behind it", api.ErrForm)(segment.Decode(slices.Concat(b, behind)))
			refused(t, c.name+", more ahead of it", api.ErrForm)(segment.Decode(slices.Concat(behind, b)))
		}
	}
	// Nothing but a byte is another one, or not there, wherever it is.
	b := docsOf(3, 0, 9).record()
	for at := range b {
		for by := 1; by < 256; by++ {
			other := slices.Clone(b)
			other[at] ^= byte(by)
			refused(t, "another byte at "+strconv.Itoa(at), api.ErrForm)(segment.Decode(other))
		}
		refused(t, "no byte at "+strconv.Itoa(at), api.ErrForm)(segment.Decode(slices.Delete(slices.Clone(b), at, at+1)))
	}
	// What it holds, without a record around it.
	refused(t, "no record", api.ErrForm)(segment.Decode(docsOf(3, 0, 9).parts().body()))
}

// wrong tells of a record that is taken, though its Sums alone are right.
func wrong(t *testing.T, name string, p plain, by func(x *parts)) {
	t.Helper()
	x := p.parts()
	if by(&x); bytes.Equal(x.body(), p.parts().body()) {
		t.Fatalf("%s: nothing is wrong", name)
	}
	refused(t, name, api.ErrForm)(segment.Decode(record(x.body())))
}

func TestDecodeOfAnotherMark(t *testing.T) {
	for _, mark := range []string{"", "\x53", "\x01", "\x53\x00", "\x53\x02", "\x52\x01", "\x54\x01", "\x01\x53", "\x00\x00", "\xff\xff", "\x53\x81", "\xd3\x01", "\x53\x01\x53\x01", "\x00\x53\x01", "\x53\x00\x01", "s\x01", "S1"} {
		for _, c := range cases() {
			wrong(t, c.name+", mark "+strconv.Quote(mark), c.plain, func(x *parts) { x.mark = mark })
		}
	}
}

func TestDecodeOfKeysThatDoNotRise(t *testing.T) {
	p := of("a:one", "ab:two", "b:", "\xff:three").without("c", "d", "d\x00")
	orders([]int{0, 1, 2, 3}, func(order []int) {
		var other plain
		for _, i := range order {
			other.docs = append(other.docs, p.docs[i])
		}
		if b := record(other.without(p.gone...).parts().body()); !slices.IsSorted(order) {
			refused(t, "documents that do not rise", api.ErrForm)(segment.Decode(b))
			wrong(t, "keys that do not rise", p, func(x *parts) { x.keys = other.keys() })
		}
	})
	orders(p.gone, func(gone []string) {
		if !slices.Equal(gone, p.gone) {
			wrong(t, "gone keys that do not rise", p, func(x *parts) { x.gone = gone })
		}
	})
}

func TestDecodeOfKeysTwice(t *testing.T) {
	p := of("a:one", "ab:two", "b:").without("c", "d")
	for i, key := range p.keys() {
		for at := range p.keys() {
			if at != i {
				wrong(t, "a key twice", p, func(x *parts) { x.keys = slices.Replace(slices.Clone(x.keys), at, at+1, key) })
			}
		}
		for at := range p.gone {
			wrong(t, "a key in both, another one not gone", p, func(x *parts) { x.gone = slices.Replace(slices.Clone(x.gone), at, at+1, key) })
		}
		wrong(t, "a key in both", p, func(x *parts) {
			x.gone = slices.Insert(slices.Clone(x.gone), 0, key)
			x.gones++
		})
		wrong(t, "a key in both alone", p, func(x *parts) { x.gone, x.gones = []string{key}, 1 })
	}
	wrong(t, "a key twice gone", p, func(x *parts) { x.gone = []string{"c", "c"} })
	wrong(t, "a key twice gone among others", p, func(x *parts) { x.gone, x.gones = []string{"c", "d", "d", "e"}, 4 })
	wrong(t, "a key twice, the same text", of("a:one", "b:one"), func(x *parts) { x.keys = []string{"a", "a"} })
	wrong(t, "a last key in both", p, func(x *parts) { x.gone = []string{"b", "c"} })
}

func TestDecodeOfKeysThatAreNone(t *testing.T) {
	p := of("a:one", "b:two").without("c", "d")
	for _, key := range badKeys() {
		if len(key) > most {
			continue
		}
		name := "a key of " + strconv.Itoa(len(key)) + " bytes"
		for at := range 2 {
			wrong(t, name, p, func(x *parts) { x.keys = slices.Replace(slices.Clone(x.keys), at, at+1, key) })
			wrong(t, name+", gone", p, func(x *parts) { x.gone = slices.Replace(slices.Clone(x.gone), at, at+1, key) })
		}
		wrong(t, name+", alone", of("a:one"), func(x *parts) { x.keys = []string{key} })
		wrong(t, name+", gone alone", of().without("a"), func(x *parts) { x.gone = []string{key} })
	}
}

// lies is numbers that are not this one.
func lies(n uint64) []uint64 {
	l := []uint64{0, 1, 2, 3, n - 1, n + 1, n + 2, 2 * n, 10 * n, n + 128, 255, 1 << 14, 1 << 16, 1<<16 + 1, 1 << 20, 1 << 31, 1 << 32, 1<<32 + n, 1<<62 - 1, 1 << 62, 1<<62 + 1, 1<<63 - 1, 1 << 63, 1<<63 + n, math.MaxUint64}
	return slices.DeleteFunc(l, func(v uint64) bool { return v == n })
}

func TestDecodeOfNumbersThatLie(t *testing.T) {
	for _, c := range cases() {
		x := c.parts()
		for _, n := range lies(x.docs) {
			wrong(t, c.name+", documents", c.plain, func(x *parts) { x.docs = n })
		}
		for _, n := range lies(x.gones) {
			wrong(t, c.name+", gone", c.plain, func(x *parts) { x.gones = n })
		}
		for _, n := range lies(x.syms) {
			wrong(t, c.name+", symbols", c.plain, func(x *parts) { x.syms = n })
		}
	}
	body := string(of("a:", "b:").without("c").parts().body())
	if body != "\x53\x01\x02\x01a\x01b\x01\x01c\x03\x01\x01\x00" {
		t.Fatalf("% x", body)
	}
	// Each of the numbers is laid with a byte more than it needs, or is greater than there may be, or lies.
	for _, at := range []int{2, 3, 5, 7, 8, 10, 11, 12, 13} {
		for _, to := range []string{body[at : at+1], string([]byte{body[at] | 0x80, 0}), string([]byte{body[at] | 0x80, 0x80, 0}), "\xff\xff\xff\xff\xff\xff\xff\xff\x7f", "\xff\xff\xff\xff\xff\xff\xff\xff\xff\x01", strings.Repeat("\x80", 9) + "\x01", strings.Repeat("\xff", 30), strings.Repeat("\x80", 8) + "\x40"} {
			b := record([]byte(body[:at] + to + body[at+1:]))
			if to == body[at:at+1] {
				decoded(t, "as it was", b)
			} else {
				refused(t, "a number at "+strconv.Itoa(at)+": "+strconv.Quote(to), api.ErrForm)(segment.Decode(b))
			}
		}
	}
	// Far more told than there is, and all of it there but the last.
	gone := keysOf(15000, 60)
	refused(t, "one key too many told", api.ErrForm)(segment.Decode(record(parts{mark: "\x53\x01", gones: 15001, gone: gone}.body())))
	refused(t, "2^62 keys told", api.ErrForm)(segment.Decode(record(parts{mark: "\x53\x01", docs: 1 << 62, keys: gone}.body())))
	refused(t, "bytes 0", api.ErrForm)(segment.Decode(record(slices.Concat([]byte("\x53\x01\xff\xff\xff\xff\x7f"), make([]byte, most-7)))))
	refused(t, "bytes 1", api.ErrForm)(segment.Decode(record(slices.Concat([]byte("\x53\x01"), bytes.Repeat([]byte{1}, most-2)))))
}

// rows puts another turned row into a record.
func rows(t *testing.T, name string, p plain, row ...int) {
	t.Helper()
	wrong(t, name, p, func(x *parts) { x.row, x.syms = row, uint64(len(row)) })
}

func TestDecodeOfOtherRows(t *testing.T) {
	for _, c := range cases() {
		texts := c.texts()
		rows(t, c.name+", a text more", c.plain, turned(append(slices.Clone(texts), []byte("more"))...)...)
		rows(t, c.name+", an empty text more", c.plain, turned(append(slices.Clone(texts), nil)...)...)
		rows(t, c.name+", many texts more", c.plain, turned(append(slices.Clone(texts), make([][]byte, 300)...)...)...)
		if len(texts) > 0 {
			rows(t, c.name+", a text fewer", c.plain, turned(texts[1:]...)...)
			rows(t, c.name+", no text", c.plain, turned()...)
			rows(t, c.name+", a key more", plain{docs: append(slices.Clone(c.docs), api.Doc{Key: "\xff\xff\xff"}), gone: c.gone}, turned(texts...)...)
		}
		rows(t, c.name+", no row", c.plain)
		x := c.parts()
		rows(t, c.name+", a 0 more", c.plain, append(slices.Clone(x.row), 0)...)
		for _, row := range [][]int{{258, 1, 0}, {5, 0}, {1, 5, 0}, {1, 1, 5, 0}, {514, 1, 0}, {1 << 40, 1, 0}, {1 << 62, 1, 0}, {5, 258, 1, 0}} {
			l, _ := bwt.Turn(row...)
			rows(t, c.name+", a row of no texts", c.plain, l...)
		}
		for _, row := range [][]int{{1}, {0, 0}, {0, 1}, {1, 1}, {0, 1, 1}, {1, 0, 0}, {1, 2, 3}, {1 << 62}, {2, 0, 1}} {
			rows(t, c.name+", turned of nothing", c.plain, row...)
		}
	}
	p := of("a:abcab")
	for at := range p.parts().row {
		for _, sym := range []int{0, 1, 2, 3, 258, 259, 512, 1 << 20, 1 << 61} {
			row := p.parts().row
			row[at] = sym
			x := p.parts()
			if x.row = row; nearly(record(x.body())) == nil {
				rows(t, "another symbol", p, row...)
			}
		}
	}
}

func TestDecodeWithSomethingBehind(t *testing.T) {
	for _, c := range cases() {
		for _, behind := range []string{"\x00", "\x01", "\x7f", "\x80", "\xff", "\x00\x00", "text", string(c.parts().body())} {
			wrong(t, c.name+", "+strconv.Quote(behind)+" behind the last symbol", c.plain, func(x *parts) { x.behind = behind })
		}
		body := c.parts().body()
		for n := range body {
			refused(t, c.name+", the body cut short", api.ErrForm)(segment.Decode(record(body[:n])))
		}
	}
}

func TestDecodeOfTextsThatAreTooLong(t *testing.T) {
	for _, l := range [][]int{{api.MaxText}, {0, api.MaxText, 5}} {
		p := docsOf(l...)
		holds(t, "MaxText", decoded(t, "MaxText", p.record()), p)
	}
	for _, l := range [][]int{{api.MaxText + 1}, {api.MaxText + 1, 0, 5}, {0, 5, api.MaxText + 1}, {5, api.MaxText + 1, api.MaxText}, {2 * api.MaxText}, {api.MaxAll - 2}} {
		refused(t, "more than MaxText", api.ErrForm)(segment.Decode(docsOf(l...).record()))
	}
}

// turnedOfEmpty is Turn of the row of so many texts without a byte, more than Turn takes too.
func turnedOfEmpty(n int) []int { return append(slices.Repeat([]int{1}, n), 0) }

func TestDecodeOfMaxAll(t *testing.T) {
	for _, c := range great(api.MaxAll) {
		s := decoded(t, c.name, c.record())
		holds(t, c.name, s, c.plain)
	}
	for _, n := range []int{api.MaxAll, api.MaxAll + 1, 3 * api.MaxAll / 2} {
		x := parts{mark: "\x53\x01", docs: uint64(n), keys: keysOf(n, 6), row: turnedOfEmpty(n), syms: uint64(n) + 1}
		if long := len(x.body()); long > most {
			t.Fatalf("%d bytes", long)
		}
		refused(t, strconv.Itoa(n+1)+" symbols", api.ErrForm)(segment.Decode(record(x.body())))
	}
	just := parts{mark: "\x53\x01", docs: api.MaxAll - 1, keys: keysOf(api.MaxAll-1, 6), row: turnedOfEmpty(api.MaxAll - 1), syms: api.MaxAll}
	decoded(t, "MaxAll symbols", record(just.body()))
	long := parts{mark: "\x53\x01", syms: api.MaxFrame / 2, row: make([]int, api.MaxFrame/2)}
	refused(t, "symbols 0", api.ErrForm)(segment.Decode(record(long.body())))
}

func TestDecodeOfMaxFrame(t *testing.T) {
	for _, p := range []plain{{}, docsOf(api.MaxText, 0, 17)} {
		just := filled(p, most)
		b := just.record()
		if len(b) != most+12 {
			t.Fatal(len(b))
		}
		holds(t, "just as much", decoded(t, "just as much", b), just)
		for _, n := range []int{most + 1, most + 2, most + 63, api.MaxFrame, api.MaxFrame + 1} {
			refused(t, strconv.Itoa(n)+" bytes", api.ErrForm)(segment.Decode(filled(p, n).record()))
		}
	}
}

// nearly is the documents whose record these bytes are, or nil: it takes apart whatever may be one, and holds the record by the chapter's words against them.
func nearly(b []byte) *plain {
	if len(b) < 14 {
		return nil
	}
	left := b[10 : len(b)-4]
	num := func() int {
		v, n := binary.Uvarint(left)
		if n <= 0 || v > api.MaxFrame {
			left = nil
			return 0
		}
		left = left[n:]
		return int(v)
	}
	keys := func() []string {
		var l []string
		for n := num(); len(l) < n && len(left) > 0; {
			long := min(num(), len(left))
			l, left = append(l, string(left[:long])), left[long:]
		}
		return l
	}
	var p plain
	for _, key := range keys() {
		p.docs = append(p.docs, api.Doc{Key: key})
	}
	p.gone = keys()
	var row []int
	for n := num(); len(row) < n && len(left) > 0; {
		row = append(row, num())
	}
	texts, ok := textsOf(row)
	if !ok || len(texts) != len(p.docs) {
		return nil
	}
	for i, text := range texts {
		p.docs[i].Text = text
	}
	if !p.may() || !bytes.Equal(p.record(), b) {
		return nil
	}
	return &p
}

// may tells whether documents and keys that are gone, in this order, may be a segment's.
func (p plain) may() bool {
	told := map[string]int{}
	for _, key := range append(p.keys(), p.gone...) {
		if told[key]++; told[key] > 1 || len(key) < 1 || len(key) > api.MaxKey {
			return false
		}
	}
	for _, text := range p.texts() {
		if len(text) > api.MaxText {
			return false
		}
	}
	return slices.IsSorted(p.keys()) && slices.IsSorted(p.gone)
}

// textsOf is the texts of whose row this is Turn, if there are some.
func textsOf(l []int) (texts [][]byte, ok bool) {
	row, e := bwt.Back(l...)
	if e != api.OK {
		return nil, false
	}
	var text []byte
	for _, c := range row[:len(row)-1] {
		switch {
		case c > 257:
			return nil, false
		case c == 1:
			texts, text = append(texts, text), nil
		default:
			text = append(text, byte(c-2))
		}
	}
	return texts, len(text) == 0
}

// near gives bytes that are others but for little.
func near(b []byte, do func(near []byte)) {
	for at := range b {
		for _, by := range []byte{0, 1, 2, 3, 'a', 'b', 'c', 'd', 0x40, 0x41, 0x7f, 0x80, 0x81, 0xff, b[at] - 1, b[at] + 1, b[at] ^ 0x80} {
			other := slices.Clone(b)
			other[at] = by
			do(other)
			do(slices.Insert(slices.Clone(b), at, by))
		}
		for _, to := range []int{0, at / 2, at + 1, len(b) - 1} {
			other := slices.Clone(b)
			to = min(to, len(b)-1)
			other[at], other[to] = other[to], other[at]
			do(other)
		}
		do(slices.Delete(slices.Clone(b), at, at+1))
		do(slices.Insert(slices.Clone(b), at, b[at:]...))
	}
}

// What is nearly a record of a segment is refused, but where it is one of another segment: this is answered then.
func TestDecodeOfNearly(t *testing.T) {
	taken := 0
	for _, p := range []plain{of(), of("a:"), of("b:abc"), of("a:ay", "b:xay").without("c"), of("a:", "b:ab", "bb:").without("aa", "c"), of().without("a", "b", "d"), of("a:\xff\x00\xff", "aa:banana", "c:\x7e\x7d").without("b"), random(1), random(2)} {
		near(p.parts().body(), func(body []byte) {
			b := record(body)
			want := nearly(b)
			if want == nil {
				refused(t, "nearly: "+strconv.Quote(string(body)), api.ErrForm)(segment.Decode(b))
				return
			}
			taken++
			holds(t, "nearly: "+strconv.Quote(string(body)), decoded(t, "nearly: "+strconv.Quote(string(body)), b), *want)
		})
	}
	if taken < 100 {
		t.Errorf("%d records of others alone", taken)
	}
}

// Of all short bodies those are taken that are one of a segment, and no other.
func TestDecodeOfAllShort(t *testing.T) {
	taken := 0
	for n, all := 0, 1; n <= 7; n, all = n+1, all*5 {
		for which := range all {
			body := []byte("\x53\x01")
			for i, left := 0, which; i < n; i, left = i+1, left/5 {
				body = append(body, "\x00\x01\x02\x03a"[left%5])
			}
			b := record(body)
			want := nearly(b)
			if want == nil {
				refused(t, strconv.Quote(string(body)), api.ErrForm)(segment.Decode(b))
				continue
			}
			taken++
			s := decoded(t, strconv.Quote(string(body)), b)
			if !slices.Equal(s.Keys(), want.keys()) || !slices.Equal(s.Gone(), want.gone) || !bytes.Equal(s.Encode(), b) {
				t.Errorf("%q: %q, %q", body, s.Keys(), s.Gone())
			}
		}
	}
	if taken < 10 {
		t.Errorf("%d alone", taken)
	}
}

// P9.4

// merge is what several are as one, key by key: the first one that knows it decides.
func merge(last bool, l ...plain) plain {
	all := map[string]api.Doc{}
	gone := map[string]int{}
	for _, p := range slices.Backward(l) {
		for _, doc := range p.docs {
			all[doc.Key] = doc
			delete(gone, doc.Key)
		}
		for _, key := range p.gone {
			delete(all, key)
			gone[key] = 1
		}
	}
	var p plain
	for _, doc := range all {
		p.docs = append(p.docs, doc)
	}
	slices.SortFunc(p.docs, func(a, b api.Doc) int { return strings.Compare(a.Key, b.Key) })
	for key := range gone {
		p.gone = append(p.gone, key)
	}
	slices.Sort(p.gone)
	if last {
		p.gone = nil
	}
	return p
}

// madeAll is a segment of each.
func madeAll(t *testing.T, l ...plain) []*segment.Segment {
	t.Helper()
	var all []*segment.Segment
	for _, p := range l {
		all = append(all, made(t, "one of several", p))
	}
	return all
}

// merges tells of segments that are another one together than the plain documents are.
func merges(t *testing.T, name string, l ...plain) {
	t.Helper()
	all := madeAll(t, l...)
	for _, last := range []bool{false, true} {
		name := name + ", last: " + strconv.FormatBool(last)
		holds(t, name, merged(t, name, last, all...), merge(last, l...))
	}
	for i, s := range all {
		if !bytes.Equal(s.Encode(), l[i].record()) {
			t.Errorf("%s: Merge changed one of them", name)
		}
	}
}

func TestMergeOfNone(t *testing.T) {
	for _, last := range []bool{false, true} {
		holds(t, "none", merged(t, "none", last), plain{})
		holds(t, "none", merged(t, "none", last, []*segment.Segment{}...), plain{})
	}
}

func TestMergeOfOne(t *testing.T) {
	for _, c := range cases() {
		merges(t, c.name, c.plain)
		merges(t, c.name+", of itself", c.plain, c.plain, c.plain)
		merges(t, c.name+", behind nothing", plain{}, c.plain)
		merges(t, c.name+", ahead of nothing", c.plain, plain{})
		merges(t, c.name+", ahead of others", c.plain, of("a:zz", "c:yy", "\xff:xx").without("b", "0", "1", "001", "0001"))
		merges(t, c.name+", behind others", of("a:zz", "c:yy", "\xff:xx").without("b", "0", "1", "001", "0001"), c.plain)
	}
}

func TestMergeTold(t *testing.T) {
	newest := made(t, "newest", of("a:new", "d:").without("b", "e"))
	older := made(t, "older", of("b:old", "c:mid").without("a", "f"))
	oldest := made(t, "oldest", of("a:eldest", "c:eldest", "e:eldest", "f:eldest", "g:eldest").without("d", "h"))
	want := of("a:new", "c:mid", "d:", "g:eldest")
	holds(t, "not last", merged(t, "not last", false, newest, older, oldest), want.without("b", "e", "f", "h"))
	holds(t, "last", merged(t, "last", true, newest, older, oldest), want)
	holds(t, "two", merged(t, "two", false, newest, older), of("a:new", "c:mid", "d:").without("b", "e", "f"))
	holds(t, "two, turned about", merged(t, "two, turned about", false, older, newest), of("b:old", "c:mid", "d:").without("a", "e", "f"))
	holds(t, "two, turned about, last", merged(t, "two, turned about, last", true, older, newest), of("b:old", "c:mid", "d:"))
	holds(t, "gone alone, last", merged(t, "gone alone, last", true, made(t, "gone", of().without("a", "b"))), of())
	holds(t, "gone ahead, last", merged(t, "gone ahead, last", true, made(t, "gone", of().without("a")), made(t, "a", of("a:text", "b:other"))), of("b:other"))
}

// Two keys, each a document, gone, or not there, in each of three segments.
func TestMergeOfAllShort(t *testing.T) {
	var kinds []plain
	for which := range 9 {
		var p plain
		for i, key := range []string{"a", "ab"} {
			switch which / []int{1, 3}[i] % 3 {
			case 1:
				p.docs = append(p.docs, api.Doc{Key: key})
			case 2:
				p.gone = append(p.gone, key)
			}
		}
		kinds = append(kinds, p)
	}
	for which := range 9 * 9 * 9 {
		var l []plain
		for i, by := range []int{1, 9, 81} {
			p := plain{gone: kinds[which/by%9].gone}
			for _, doc := range kinds[which/by%9].docs {
				p.docs = append(p.docs, api.Doc{Key: doc.Key, Text: []byte(doc.Key + strconv.Itoa(i))})
			}
			l = append(l, p)
		}
		merges(t, "case "+strconv.Itoa(which), l...)
	}
}

// random is documents and keys that are gone, of few keys, by a number.
func random(by int) plain {
	var p plain
	for i, key := range []string{"\x00", "a", "a\x00", "aa", "b", "c", "\xfe", "\xff", "\xff\xff"} {
		switch v := muddle(by*77 + i); v % 4 {
		case 0, 1:
			p.docs = append(p.docs, api.Doc{Key: key, Text: text(v, v>>8%20, 1+v>>16%4)})
		case 2:
			p.gone = append(p.gone, key)
		}
	}
	return p
}

func TestMergeOfSeveral(t *testing.T) {
	for n := range 8 {
		for by := range 6 {
			var l []plain
			for i := range n {
				l = append(l, random(by*10+i))
			}
			merges(t, strconv.Itoa(n)+" by "+strconv.Itoa(by), l...)
		}
	}
	many := slices.Repeat(madeAll(t, random(1), random(2), random(3)), 100)
	holds(t, "300", merged(t, "300", false, many...), merge(false, random(1), random(2), random(3)))
}

func TestMergeWithNil(t *testing.T) {
	l := madeAll(t, random(1), random(2), random(3))
	tooMuch := append(l, madeAll(t, great(api.MaxAll)[0].plain)...)
	for _, last := range []bool{false, true} {
		refused(t, "nil alone", api.ErrArg)(segment.Merge(last, nil))
		refused(t, "two nil", api.ErrArg)(segment.Merge(last, nil, nil))
		refused(t, "too much together", api.ErrLong)(segment.Merge(last, tooMuch...))
		for at := range 4 {
			refused(t, "one nil", api.ErrArg)(segment.Merge(last, slices.Insert(slices.Clone(l), at, nil)...))
			refused(t, "one nil, too much together", api.ErrArg)(segment.Merge(last, slices.Insert(slices.Clone(tooMuch), at+1, nil)...))
		}
	}
}

// half is every other document, from the first or the second one on.
func half(l plain, from int) plain {
	var p plain
	for i := from; i < len(l.docs); i += 2 {
		p.docs = append(p.docs, l.docs[i])
	}
	return p
}

func TestMergeOfTooMuch(t *testing.T) {
	for _, n := range []int{api.MaxAll, api.MaxAll + 1} {
		for _, c := range great(n) {
			name := c.name + ", " + strconv.Itoa(n) + " symbols together"
			l := madeAll(t, half(c.plain, 0), half(c.plain, 1))
			// Nothing is too much that is told twice.
			l = append(l, l...)
			for _, last := range []bool{false, true} {
				if n > api.MaxAll {
					refused(t, name, api.ErrLong)(segment.Merge(last, l...))
					continue
				}
				if b := merged(t, name, last, l...).Encode(); !bytes.Equal(b, plain{docs: c.docs}.record()) {
					t.Errorf("%s: another one", name)
				}
			}
			shorter := made(t, name, plain{docs: c.docs[:1:1], gone: c.keys()[1:]})
			if s := merged(t, name+", all gone", true, append([]*segment.Segment{shorter}, l...)...); !slices.Equal(s.Keys(), c.keys()[:1]) || len(s.Gone()) != 0 {
				t.Errorf("%s: what is gone is too much", name)
			}
		}
	}
}

func TestMergeOfTooLongARecord(t *testing.T) {
	for _, n := range []int{most, most + 1} {
		name := strconv.Itoa(n) + " bytes together"
		p := filled(docsOf(5, 6, 7), n)
		l := madeAll(t, plain{gone: p.gone[:5000]}, plain{docs: p.docs, gone: p.gone[4000:9000]}, plain{gone: p.gone[9000:]})
		if n > most {
			refused(t, name, api.ErrLong)(segment.Merge(false, l...))
		} else if b := merged(t, name, false, l...).Encode(); !bytes.Equal(b, p.record()) {
			t.Errorf("%s: another one", name)
		}
		// The keys that are gone are not there, with last: then they are not too many either.
		holds(t, name+", last", merged(t, name, true, l...), plain{docs: p.docs})
	}
}

// bare is segments without an Index, each with the keys that it was made with.
func bare(t *testing.T) map[string]*segment.Segment {
	t.Helper()
	l := map[string]*segment.Segment{"not made": {}, "nothing built": {Index: new(fm.Index)}}
	for _, c := range cases() {
		s := made(t, c.name, c.plain)
		s.Index = nil
		l[c.name] = s
	}
	return l
}

func TestMergeWithoutIndex(t *testing.T) {
	p := of("a:text", "b:other").without("c")
	s := made(t, "one", p)
	for name, none := range bare(t) {
		for _, last := range []bool{false, true} {
			holds(t, name, merged(t, name, last, none), plain{})
			for _, l := range [][]*segment.Segment{{none, s}, {s, none}, {none, none, s, none}} {
				holds(t, name, merged(t, name, last, l...), merge(last, p))
			}
			refused(t, name+", nil", api.ErrArg)(segment.Merge(last, none, nil))
		}
	}
}

// P9.5

func TestMergeOfMerges(t *testing.T) {
	for by := range 20 {
		l := madeAll(t, random(by), random(by+100), random(by+200), random(by+300))
		for _, last := range []bool{false, true} {
			name := "by " + strconv.Itoa(by) + ", last: " + strconv.FormatBool(last)
			want := merged(t, name, last, l...).Encode()
			for from := range 4 {
				for to := from; to <= 4; to++ {
					inner := merged(t, name, false, l[from:to]...)
					outer := slices.Concat(l[:from], []*segment.Segment{inner}, l[to:])
					if !bytes.Equal(merged(t, name, last, outer...).Encode(), want) {
						t.Errorf("%s: Merge of Merge of %d to %d", name, from, to)
					}
				}
			}
			nested := l[3]
			for _, s := range []*segment.Segment{l[2], l[1]} {
				nested = merged(t, name, false, s, nested)
			}
			if !bytes.Equal(merged(t, name, last, l[0], nested).Encode(), want) {
				t.Errorf("%s: Merges in one another", name)
			}
			two := merged(t, name, last, merged(t, name, false, l[:2]...), decoded(t, name, merged(t, name, false, l[2:]...).Encode()))
			if !bytes.Equal(two.Encode(), want) {
				t.Errorf("%s: two by two", name)
			}
		}
	}
}

// roomy is a list with spare room that is told apart from it.
func roomy[T any](l []T, spare T) []T {
	return append(slices.Clone(l), spare, spare, spare)[: len(l) : len(l)+3]
}

// whole is a list and its spare room.
func whole[T any](l []T) []T { return l[:cap(l)] }

// fill makes all of a list another thing, its spare room too.
func fill[T any](l []T, v T) {
	for i := range whole(l) {
		whole(l)[i] = v
	}
}

// sameDoc tells whether documents are the same, their texts' spare room too.
func sameDoc(one, other api.Doc) bool {
	return one.Key == other.Key && len(one.Text) == len(other.Text) && bytes.Equal(whole(one.Text), whole(other.Text))
}

func TestDocumentsHandedIn(t *testing.T) {
	for _, c := range cases() {
		l, were := plain{}, plain{}
		for _, doc := range slices.Backward(c.docs) {
			text := roomy(doc.Text, 0xee)
			l.docs = append(l.docs, api.Doc{Key: doc.Key, Text: text})
			were.docs = append(were.docs, api.Doc{Key: doc.Key, Text: slices.Clone(whole(text))[: len(text) : len(text)+3]})
		}
		l.gone = slices.Clone(c.gone)
		slices.Reverse(l.gone)
		were.gone = slices.Clone(l.gone)
		l.docs, l.gone = roomy(l.docs, api.Doc{Key: "spare"}), roomy(l.gone, "spare")
		were.docs, were.gone = roomy(were.docs, api.Doc{Key: "spare"}), roomy(were.gone, "spare")
		s := made(t, c.name, l)
		if !slices.EqualFunc(whole(l.docs), whole(were.docs), sameDoc) || !slices.Equal(whole(l.gone), whole(were.gone)) {
			t.Errorf("%s: New changed what was handed in", c.name)
		}
		for _, doc := range l.docs {
			fill(doc.Text, 'x')
		}
		fill(l.docs, api.Doc{Key: "other", Text: []byte("other")})
		fill(l.gone, "other")
		holds(t, c.name, s, c.plain)
	}
}

func TestDocumentsRefused(t *testing.T) {
	for _, c := range []struct {
		plain
		want api.Errno
	}{
		{of("b:one", "a:two", "b:three").without("d", "c"), api.ErrArg},
		{of("b:one", "a:two").without("d", "c", "d"), api.ErrArg},
		{of("b:one", ":two").without("d", "c"), api.ErrArg},
		{plain{[]api.Doc{{Key: "b", Text: make([]byte, api.MaxText+1)}, {Key: "a"}}, []string{"d", "c"}}, api.ErrLong},
	} {
		docs, gone := roomy(c.docs, api.Doc{Key: "spare"}), roomy(c.gone, "spare")
		were, wereGone := slices.Clone(whole(docs)), slices.Clone(whole(gone))
		refused(t, "handed in", c.want)(segment.New(docs, gone...))
		if !slices.EqualFunc(whole(docs), were, sameDoc) || !slices.Equal(whole(gone), wereGone) {
			t.Error("New changed what it refused")
		}
	}
}

func TestBytesHandedIn(t *testing.T) {
	for _, c := range cases() {
		b := roomy(c.record(), 0xee)
		were := slices.Clone(whole(b))
		s := decoded(t, c.name, b)
		if !bytes.Equal(whole(b), were) {
			t.Errorf("%s: Decode changed its bytes", c.name)
		}
		fill(b, 'x')
		holds(t, c.name, s, c.plain)

		b = roomy(record([]byte("\x53\x01\x02\x01b\x01a\x00\x03\x01\x01\x00")), 0xee)
		were = slices.Clone(whole(b))
		refused(t, "keys that do not rise", api.ErrForm)(segment.Decode(b))
		if !bytes.Equal(whole(b), were) {
			t.Error("Decode changed bytes that it refused")
		}
	}
}

func TestPatternsHandedIn(t *testing.T) {
	for _, c := range cases() {
		s := made(t, c.name, c.plain)
		for _, pattern := range patterns(c.texts()) {
			pattern = roomy(pattern, 0xee)
			were := slices.Clone(whole(pattern))
			found := s.Find(pattern)
			if !bytes.Equal(whole(pattern), were) {
				t.Errorf("%s: Find changed its pattern", c.name)
			}
			fill(pattern, 'x')
			if !slices.Equal(found, c.find(were[:len(pattern)])) {
				t.Errorf("%s: the places changed with the pattern", c.name)
			}
		}
	}
}

func TestSegmentsHandedIn(t *testing.T) {
	l := []plain{random(1), random(2), random(3)}
	all := roomy(madeAll(t, l...), made(t, "spare", of("spare:spare")))
	were := slices.Clone(whole(all))
	s := merged(t, "several", false, all...)
	if !slices.Equal(whole(all), were) {
		t.Error("Merge changed the list")
	}
	for i, one := range all {
		holds(t, "one of several", one, l[i])
	}
	for _, one := range were {
		*one = segment.Segment{}
	}
	fill(all, nil)
	holds(t, "several", s, merge(false, l...))
	// One alone is another one too.
	one := made(t, "one", l[0])
	s = merged(t, "one", false, one)
	*one = segment.Segment{}
	holds(t, "one", s, l[0])
}

// What is answered may be overwritten, spare room too: nothing else has it.
func TestAnsweredIsNew(t *testing.T) {
	for _, c := range cases() {
		for way, s := range map[string]*segment.Segment{
			"New": made(t, c.name, c.plain), "Decode": decoded(t, c.name, c.record()), "Merge": merged(t, c.name, false, made(t, c.name, c.plain)),
		} {
			keys, gone, b := s.Keys(), s.Gone(), s.Encode()
			fill(s.Keys(), "other")
			fill(s.Gone(), "other")
			fill(s.Encode(), 'x')
			if !slices.Equal(keys, c.keys()) || !slices.Equal(gone, c.gone) || !bytes.Equal(b, c.record()) {
				t.Errorf("%s, %s: an answer shares with another one", way, c.name)
			}
			fill(keys, "other")
			fill(gone, "other")
			fill(b, 'x')
			for _, doc := range c.docs {
				text, _, _ := s.Get(doc.Key)
				again, _, _ := s.Get(doc.Key)
				if fill(text, 'x'); !bytes.Equal(again, doc.Text) {
					t.Errorf("%s, %s: Get shares with another one", way, c.name)
				}
			}
			for _, pattern := range patterns(c.texts()) {
				found, again := s.Find(pattern), s.Find(pattern)
				if fill(found, api.Match{Key: "other", At: -1}); !slices.Equal(again, c.find(pattern)) {
					t.Errorf("%s, %s: Find shares with another one", way, c.name)
				}
			}
			holds(t, way+", "+c.name, s, c.plain)
		}
	}
}

// nothing tells of a segment that answers anything, by its own calls.
func nothing(t *testing.T, name string, s *segment.Segment) {
	t.Helper()
	if len(s.Keys()) != 0 || len(s.Gone()) != 0 || len(s.Encode()) != 0 {
		t.Errorf("%s: Keys %q, Gone %q, Encode % x", name, s.Keys(), s.Gone(), s.Encode())
	}
	for _, key := range []string{"", "a", "b", "c", "\x00", "\xff", "001", "0001", strings.Repeat("k", api.MaxKey), strings.Repeat("k", api.MaxKey+1)} {
		if text, has, known := s.Get(key); len(text) != 0 || has || known {
			t.Errorf("%s: Get(%q): %q, %t, %t", name, key, text, has, known)
		}
	}
	for _, pattern := range [][]byte{nil, {}, {'a'}, {0}, {255}, []byte("ab"), make([]byte, api.MaxAll)} {
		if l := s.Find(pattern); len(l) != 0 {
			t.Errorf("%s: Find(%.99q): %v", name, pattern, l)
		}
	}
}

func TestNilSegment(t *testing.T) { nothing(t, "nil", nil) }

func TestWithoutIndex(t *testing.T) {
	for name, s := range bare(t) {
		nothing(t, name, s)
		if s.Docs() != 0 || s.Count([]byte("a")) != 0 || len(s.Locate([]byte("a"))) != 0 || s.Len(0) != 0 || len(s.Extract(0, 0, 9)) != 0 || len(s.Turned()) != 0 {
			t.Errorf("%s: what is promoted answers something", name)
		}
	}
}

// An Index of other texts may be laid there: nothing that is asked panics then.
func TestAnotherIndex(t *testing.T) {
	for _, texts := range [][][]byte{nil, {nil}, {[]byte("aaaa")}, {[]byte("abc"), []byte("a"), nil, []byte("\x00\xffa")}, make([][]byte, 9), {make([]byte, 2*api.MaxText)}} {
		x, e := fm.Build(texts...)
		if e != api.OK {
			t.Fatal(e)
		}
		all := []*segment.Segment{{Index: x}}
		for _, c := range cases() {
			s := made(t, c.name, c.plain)
			s.Index = x
			all = append(all, s)
		}
		for _, s := range all {
			for _, key := range append(s.Keys(), s.Gone()...) {
				s.Get(key)
			}
			s.Get("a")
			s.Find([]byte("a"))
			segment.Decode(s.Encode())
			segment.Merge(false, s, s)
		}
	}
}

// Nothing that is asked changes a segment, and one that is made later is another.
func TestAskedAgain(t *testing.T) {
	all := cases()
	var l []*segment.Segment
	for _, c := range all {
		l = append(l, made(t, c.name, c.plain))
	}
	for range 2 {
		for i, c := range all {
			holds(t, c.name, l[i], c.plain)
		}
	}
}
