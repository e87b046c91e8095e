package shard_test

import (
	"encoding/binary"
	"fmt"
	"maps"
	"slices"
	"strconv"
	"strings"
	"testing"

	"haystack/api"
	"haystack/disk"
	"haystack/keep"
	"haystack/op"
	"haystack/segment"
	"haystack/shard"
)

const (
	wide = 1 << 30 // the greatest room of a disk
	most = 1 << 40 // the greatest number of a list
)

// told is what keys have: a text, or nil, where they are gone.
type told map[string]*string

// last is what a client did last, and the bytes of what was said of it.
type last struct {
	seq  int
	said string
}

// piece is a segment, and the N of its file.
type piece struct {
	n    int
	told told
}

// plain is what a shard is held against: the chapter's words, one by one, on a disk of its own.
type plain struct {
	d        *disk.Disk
	prefix   string
	applied  int
	next     int
	pieces   []piece // newest first
	sessions map[int]last
	table    told
	wrote    written
}

// written is what a list says.
type written struct {
	applied  int
	next     int
	pieces   []piece
	sessions map[int]last
}

// empty is a plain one of nothing on a disk.
func empty(d *disk.Disk, prefix string) *plain {
	return &plain{d: d, prefix: prefix, next: 1, sessions: map[int]last{}, table: told{}, wrote: written{next: 1}}
}

// copied is another one on a disk of its own.
func (p *plain) copied() *plain {
	q := *p
	q.d = p.d.Copy()
	q.pieces, q.sessions, q.table = slices.Clone(p.pieces), maps.Clone(p.sessions), maps.Clone(p.table)
	return &q
}

// name is that of a file.
func (p *plain) name(n int) string { return p.prefix + "-" + strconv.Itoa(n) }

// get is what a key has.
func (p *plain) get(key string) (string, bool) {
	text, known := p.table[key]
	for _, one := range p.pieces {
		if !known {
			text, known = one.told[key]
		}
	}
	if text == nil {
		return "", false
	}
	return *text, true
}

// docs is what all keys have, by keys.
func (p *plain) docs() []api.Doc {
	keys := map[string]struct{}{}
	for _, one := range append(slices.Clone(p.pieces), piece{0, p.table}) {
		for key := range one.told {
			keys[key] = struct{}{}
		}
	}
	var l []api.Doc
	for _, key := range slices.Sorted(maps.Keys(keys)) {
		if text, has := p.get(key); has {
			l = append(l, doc(key, text))
		}
	}
	return l
}

// find goes through all texts, byte by byte.
func (p *plain) find(pattern string) []api.Match {
	var l []api.Match
	for _, one := range p.docs() {
		for at := 0; at+len(pattern) <= len(one.Text); at++ {
			if string(one.Text[at:at+len(pattern)]) == pattern {
				l = append(l, api.Match{Key: one.Key, At: at})
			}
		}
	}
	return l
}

// apply does an op, and is what is said of it.
func (p *plain) apply(index int, data string) string {
	if p.applied+1 != index {
		return ""
	}
	p.applied = index
	said := p.do(data)
	if len(p.table) >= 8 {
		p.flush()
	}
	return said
}

// do is what apply does to the table and the sessions.
func (p *plain) do(data string) string {
	o, e := op.Decode([]byte(data))
	if e != api.OK {
		return "\x03\x00"
	}
	session, has := p.sessions[o.Client]
	if has && o.Seq < session.seq {
		return "\x0d\x00"
	}
	if has && o.Seq == session.seq {
		return session.said
	}
	_, had := p.get(o.Key)
	var said string
	switch {
	case o.Kind == 1 && had:
		said = "\x00\x01\x01"
	case o.Kind == 1:
		said = "\x00\x01\x00"
	case had:
		said = "\x00\x00"
	default:
		said = "\x07\x00"
	}
	if o.Kind == 1 {
		text := string(o.Text)
		p.table[o.Key] = &text
	} else if had {
		p.table[o.Key] = nil
	}
	p.sessions[o.Client] = last{o.Seq, said}
	return said
}

// made is the segment of what keys have.
func (l told) made() (*segment.Segment, api.Errno) {
	var docs []api.Doc
	var gone []string
	for key, text := range l {
		if text == nil {
			gone = append(gone, key)
		} else {
			docs = append(docs, doc(key, *text))
		}
	}
	return segment.New(docs, gone...)
}

// save writes a segment.
func (p *plain) save(l told) (piece, api.Errno) {
	s, e := l.made()
	if e != api.OK {
		return piece{}, e
	}
	n := p.next
	p.next++
	return piece{n, l}, keep.Save(p.d, p.name(n), s.Encode())
}

// merge is all pieces as one, of which nothing is gone.
func merge(pieces []piece) told {
	all := told{}
	for _, one := range slices.Backward(pieces) {
		maps.Copy(all, one.told)
	}
	maps.DeleteFunc(all, func(_ string, text *string) bool { return text == nil })
	return all
}

// flush is Flush.
func (p *plain) flush() api.Errno {
	pieces := p.pieces
	if len(p.table) > 0 {
		one, e := p.save(maps.Clone(p.table))
		if e != api.OK {
			return e
		}
		pieces = append([]piece{one}, pieces...)
	}
	var elder []piece
	if len(pieces) > 4 {
		one, e := p.save(merge(pieces))
		if e == api.OK {
			pieces, elder = []piece{one}, pieces
		} else if e != api.ErrLong {
			return e
		}
	}
	return p.write(written{p.applied, p.next, pieces, p.sessions}, elder)
}

// write writes a list, and takes the files of elder pieces away.
func (p *plain) write(w written, elder []piece) api.Errno {
	if e := keep.Save(p.d, p.prefix+"-list", []byte(w.bytes())); e != api.OK {
		return e
	}
	p.wrote = w
	p.read()
	var names []string
	for _, one := range elder {
		names = append(names, p.name(one.n))
	}
	slices.Sort(names)
	for _, name := range names {
		if e := p.d.Remove(name); e != api.OK {
			return e
		}
	}
	return api.OK
}

// nums is numbers as bytes.
func nums(l ...int) string {
	var b []byte
	for _, n := range l {
		b = binary.AppendUvarint(b, uint64(n))
	}
	return string(b)
}

// row is a row of bytes behind its length.
func row(b string) string { return nums(len(b)) + b }

// bytes is a list as bytes.
func (w written) bytes() string {
	b := nums(w.applied, w.next, len(w.pieces))
	for _, one := range w.pieces {
		b += nums(one.n)
	}
	return b + sessionBytes(w.sessions)
}

// sessionBytes is sessions as bytes.
func sessionBytes(sessions map[int]last) string {
	var b strings.Builder
	b.WriteString(nums(len(sessions)))
	for _, client := range slices.Sorted(maps.Keys(sessions)) {
		one := sessions[client]
		b.WriteString(nums(client, one.seq) + row(one.said))
	}
	return b.String()
}

// snapshotOf is sessions and documents as bytes.
func snapshotOf(sessions map[int]last, docs ...api.Doc) string {
	var b strings.Builder
	b.WriteString(sessionBytes(sessions) + nums(len(docs)))
	for _, one := range docs {
		b.WriteString(row(one.Key) + row(string(one.Text)))
	}
	return b.String()
}

// snapshot is Snapshot.
func (p *plain) snapshot() string { return snapshotOf(p.sessions, p.docs()...) }

// install is Install of sessions and documents, by keys.
func (p *plain) install(index int, sessions map[int]last, docs ...api.Doc) api.Errno {
	var pieces []piece
	for len(docs) > 0 {
		n := len(docs)
		for n > 1 && of(docs[:n]...) == nil {
			n--
		}
		one, e := p.save(of(docs[:n]...))
		if e != api.OK {
			return e
		}
		pieces = append([]piece{one}, pieces...)
		docs = docs[n:]
	}
	return p.write(written{index, p.next, pieces, sessions}, p.pieces)
}

// of is what documents have; nothing, if no segment takes them all.
func of(docs ...api.Doc) told {
	l := told{}
	for _, one := range docs {
		text := string(one.Text)
		l[one.Key] = &text
	}
	if _, e := l.made(); e != api.OK {
		return nil
	}
	return l
}

// opened is what Open reads: what was written last, and then no other file of the prefix.
func (p *plain) opened() api.Errno {
	stay := []string{p.prefix + "-list"}
	for _, one := range p.wrote.pieces {
		stay = append(stay, p.name(one.n))
	}
	for _, name := range p.d.List() {
		if strings.HasPrefix(name, p.prefix+"-") && !slices.Contains(stay, name) {
			if e := p.d.Remove(name); e != api.OK {
				return e
			}
		}
	}
	p.read()
	return api.OK
}

// read is what the list says: nothing is in the table by then.
func (p *plain) read() {
	w := p.wrote
	p.applied, p.next, p.pieces, p.sessions, p.table = w.applied, w.next, w.pieces, map[int]last{}, told{}
	maps.Copy(p.sessions, w.sessions)
}

// doc is a document.
func doc(key, text string) api.Doc { return api.Doc{Key: key, Text: []byte(text)} }

// room is an empty disk.
func room(t *testing.T, n int) *disk.Disk {
	t.Helper()
	d, e := disk.New(n)
	answers(t, "disk.New", e, api.OK)
	return d
}

// answers tells of an error that is not the one that is asked for.
func answers(t *testing.T, what string, e, want api.Errno) {
	t.Helper()
	if e != want {
		t.Errorf("%s: %v, want %v", what, e, want)
	}
}

// short is a text for a message.
func short(text string) string {
	return fmt.Sprintf("%d %q", len(text), text[:min(len(text), 60)])
}

// put and gone are ops as bytes.
func put(client, seq int, key, text string) string {
	return nums(1, client, seq) + row(key) + row(text)
}

func gone(client, seq int, key string) string { return nums(2, client, seq) + row(key) + row("") }

// open is a shard that must be there.
func open(t *testing.T, what string, d *disk.Disk, prefix string) *shard.Shard {
	t.Helper()
	s, e := shard.Open(d, prefix)
	if s == nil || e != api.OK {
		t.Fatalf("%s: Open: %v", what, e)
	}
	return s
}

// pair is a shard and the plain one that it is held against; both are asked the same.
type pair struct {
	t    *testing.T
	s    *shard.Shard
	p    *plain
	d    *disk.Disk
	done []string
}

// begin is a pair on empty disks.
func begin(t *testing.T, much int) *pair {
	t.Helper()
	d := room(t, much)
	return &pair{t: t, s: open(t, "begin", d, "d"), p: empty(room(t, much), "d"), d: d}
}

// twin is a pair that goes on from here by itself.
func (x *pair) twin() *pair {
	x.t.Helper()
	y := &pair{t: x.t, p: x.p.copied(), d: x.d.Copy(), done: slices.Clone(x.done)}
	y.s = open(x.t, "twin", y.d, "d")
	answers(x.t, "twin", y.p.opened(), api.OK)
	return y
}

// what is what was done last.
func (x *pair) what() string {
	return strings.Join(x.done[max(0, len(x.done)-12):], ", ")
}

// did notes that something was done.
func (x *pair) did(format string, args ...any) {
	x.done = append(x.done, fmt.Sprintf(format, args...))
}

// apply tells of an op of which something else is said.
func (x *pair) apply(index int, data string) {
	x.t.Helper()
	x.did("Apply(%d, %s)", index, short(data))
	got, want := x.s.Apply(index, []byte(data)), x.p.apply(index, data)
	if string(got) != want {
		x.t.Fatalf("%s: %x, want %x", x.what(), got, want)
	}
}

// next is apply of the op that comes next.
func (x *pair) next(data string) {
	x.t.Helper()
	x.apply(x.p.applied+1, data)
}

// skip goes on to a number.
func (x *pair) skip(index int) {
	x.did("Skip(%d)", index)
	x.s.Skip(index)
	if index == x.p.applied+1 {
		x.p.applied = index
	}
}

// flush tells of a Flush that answers something else.
func (x *pair) flush() api.Errno {
	x.t.Helper()
	e, want := x.s.Flush(), x.p.flush()
	x.did("Flush: %d", e)
	answers(x.t, x.what(), e, want)
	return e
}

// install tells of an Install that answers something else.
func (x *pair) install(index int, sessions map[int]last, docs ...api.Doc) api.Errno {
	x.t.Helper()
	e, want := x.s.Install(index, []byte(snapshotOf(sessions, docs...))), x.p.install(index, sessions, docs...)
	x.did("Install(%d, %d sessions, %d documents): %d", index, len(sessions), len(docs), e)
	answers(x.t, x.what(), e, want)
	return e
}

// fuse lets so many more things be done on both disks.
func (x *pair) fuse(n int) {
	x.did("Fuse(%d)", n)
	x.d.Fuse(n)
	x.p.d.Fuse(n)
}

// reopen opens both; told is whether that erred.
func (x *pair) reopen() api.Errno {
	x.t.Helper()
	s, e := shard.Open(x.d, "d")
	want := x.p.opened()
	x.did("Open: %d", e)
	answers(x.t, x.what(), e, want)
	if (s == nil) != (e != api.OK) {
		x.t.Fatalf("%s: a shard: %t", x.what(), s != nil)
	}
	x.s = s
	return e
}

// crash is one of both disks, and Open.
func (x *pair) crash(draw int) {
	x.t.Helper()
	x.did("Crash(%d)", draw)
	x.d.Crash(draw)
	x.p.d.Crash(draw)
	x.reopen()
}

// holds tells of a shard that does not say what the plain one says, or whose disk has not the same.
func (x *pair) holds() {
	x.t.Helper()
	x.says()
	x.has()
}

// says tells of a shard that does not say what the plain one says.
func (x *pair) says() {
	x.t.Helper()
	s, p := x.s, x.p
	if s.Applied() != p.applied {
		x.t.Fatalf("%s: applied %d, want %d", x.what(), s.Applied(), p.applied)
	}
	segments, loose, sure := s.Parts()
	if segments != len(p.pieces) || loose != len(p.table) || sure != p.wrote.applied {
		x.t.Fatalf("%s: Parts %d %d %d, want %d %d %d", x.what(), segments, loose, sure, len(p.pieces), len(p.table), p.wrote.applied)
	}
	if got, want := string(s.Snapshot()), p.snapshot(); got != want {
		x.t.Fatalf("%s: Snapshot %s, want %s", x.what(), short(got), short(want))
	}
	for _, key := range x.asked() {
		text, has := s.Get(key)
		if want, had := p.get(key); string(text) != want || has != had {
			x.t.Fatalf("%s: Get of %q: %s %t, want %s %t", x.what(), key, short(string(text)), has, short(want), had)
		}
	}
	for _, pattern := range x.patterns() {
		got, e := s.Find([]byte(pattern))
		if want := p.find(pattern); e != api.OK || !slices.Equal(got, want) {
			x.t.Fatalf("%s: Find of %q: %v %v, want %v", x.what(), pattern, got[:min(9, len(got))], e, want[:min(9, len(want))])
		}
	}
}

// asked is all keys that anything knows, and others.
func (x *pair) asked() []string {
	l := []string{"", "a", "zz", "\x00", strings.Repeat("k", api.MaxKey+1)}
	for _, one := range append(slices.Clone(x.p.pieces), piece{0, x.p.table}) {
		for key := range one.told {
			l = append(l, key, key+"\x00", key[1:])
		}
	}
	return l
}

// patterns is some that stand in texts, of now or of elder segments, and some that stand nowhere.
func (x *pair) patterns() []string {
	l := []string{"a", "aa", "ab", "\x00", "no such text", strings.Repeat("a", api.MaxPattern)}
	for _, one := range append(slices.Clone(x.p.pieces), piece{0, x.p.table}) {
		for _, text := range one.told {
			if text != nil && *text != "" {
				n := min(len(*text), api.MaxPattern)
				l = append(l, (*text)[:n], (*text)[n/2:n], (*text)[len(*text)-1:])
			}
		}
	}
	slices.Sort(l)
	return slices.Compact(l)
}

// file is a file of a disk: the bytes that last, and the others.
type file struct{ lasts, others string }

// files is all files of a disk; what lasts is told by a crash of a copy.
func files(d *disk.Disk) map[string]file {
	c := d.Copy()
	c.Crash(0)
	l := map[string]file{}
	for _, name := range d.List() {
		all, _ := d.Read(name)
		lasts, _ := c.Read(name)
		l[name] = file{string(lasts), string(all[len(lasts):])}
	}
	return l
}

// has tells of a disk that has not the same files.
func (x *pair) has() {
	x.t.Helper()
	sameFiles(x.t, x.what(), files(x.d), files(x.p.d))
}

// sameFiles tells of files that are others.
func sameFiles(t *testing.T, what string, got, want map[string]file) {
	t.Helper()
	if maps.Equal(got, want) {
		return
	}
	t.Errorf("%s: files %q, want %q", what, slices.Sorted(maps.Keys(got)), slices.Sorted(maps.Keys(want)))
	for _, name := range slices.Sorted(maps.Keys(want)) {
		if got[name] != want[name] {
			t.Errorf("%s: %s: %s %s, want %s %s", what, name, short(got[name].lasts), short(got[name].others), short(want[name].lasts), short(want[name].others))
		}
	}
	t.FailNow()
}

// muddle is a number that looks like none near it.
func muddle(i int) int {
	v := (uint64(i) + 1) * 0x9e3779b97f4a7c15
	v = (v ^ v>>29) * 0xbf58476d1ce4e5b9
	return int((v ^ v>>32) >> 1)
}

// text is so many bytes of three kinds, by a number.
func text(by, long int) string {
	b := make([]byte, long)
	for i := range b {
		b[i] = "ab\xff"[muddle(by*100003+i)%3]
	}
	return string(b)
}
