package journal_test

import (
	"encoding/binary"
	"fmt"
	"hash/crc32"
	"maps"
	"slices"
	"strings"
	"testing"

	"haystack/api"
	"haystack/disk"
	"haystack/journal"
)

const (
	wide = 1 << 30 // the greatest room of a disk
	most = 1 << 40 // the greatest number and term
)

// nums is numbers as bytes.
func nums(l ...int) string {
	var b []byte
	for _, n := range l {
		b = binary.AppendUvarint(b, uint64(n))
	}
	return string(b)
}

// row is a row of bytes behind its length.
func row(b string) string { return nums(len(b)) + b }

// group is nodes behind how many they are.
func group(nodes ...int) string { return nums(len(nodes)) + nums(nodes...) }

// sum is the check sum of bytes, as bytes.
func sum(b string) string {
	return string(binary.LittleEndian.AppendUint32(nil, crc32.ChecksumIEEE([]byte(b))))
}

// framed is bytes as a record.
func framed(b string) string {
	head := string(binary.LittleEndian.AppendUint32(nil, uint32(len(b))))
	head += sum(head)
	return head + b + sum(head+b)
}

// The records of a log, and a snapshot, by the chapter's words.
func baseRecord(index, term int, nodes ...int) string {
	return framed("\x01" + nums(index, term) + group(nodes...))
}

func termRecord(term, vote int) string { return framed("\x02" + nums(term, vote+1)) }

func entryRecord(index int, e api.Entry) string {
	return framed("\x03" + nums(index, e.Term, e.Kind) + row(string(e.Data)) + group(e.Nodes...))
}

func cutRecord(from int) string { return framed("\x04" + nums(from)) }

func snapshotOf(index, term int, nodes []int, data string) string {
	return framed(nums(index, term) + group(nodes...) + row(data))
}

// empty, data and config are entries.
func empty(term int) api.Entry { return api.Entry{Term: term} }

func data(term int, text string) api.Entry {
	return api.Entry{Term: term, Kind: 1, Data: []byte(text)}
}

func config(term int, nodes ...int) api.Entry {
	return api.Entry{Term: term, Kind: 2, Nodes: nodes}
}

// plain is what a journal is held against: the chapter's words, one by one, on a disk of its own.
type plain struct {
	d          *disk.Disk
	prefix     string
	term, vote int
	base       int
	under      int // the base's term
	nodes      []int
	data       string
	entries    []api.Entry
	dead       bool
}

// free is another one, on an empty disk on which nothing errs.
func (p *plain) free() *plain {
	q := *p
	q.entries = slices.Clone(p.entries)
	q.d, _ = disk.New(wide)
	return &q
}

// last is the number of the last entry.
func (p *plain) last() int { return p.base + len(p.entries) }

// at is the entry of a number.
func (p *plain) at(index int) (api.Entry, bool) {
	for i, one := range p.entries {
		if p.base+1+i == index {
			return one, true
		}
	}
	return api.Entry{}, false
}

// groupOf is the group by the last entry up to a number that says so, and the number of that one.
func (p *plain) groupOf(index int) ([]int, int) {
	nodes, by := p.nodes, p.base
	for i, one := range p.entries {
		if n := p.base + 1 + i; n <= index && one.Kind == 2 {
			nodes, by = one.Nodes, n
		}
	}
	return nodes, by
}

// isGroup goes through all groups there are: a bit each node.
func isGroup(nodes []int) bool {
	for bits := 1; bits < 1<<7; bits++ {
		var l []int
		for n := range 7 {
			if bits>>n&1 == 1 {
				l = append(l, n)
			}
		}
		if slices.Equal(l, nodes) {
			return true
		}
	}
	return false
}

// isEntry tells whether an entry is one.
func isEntry(e api.Entry) bool {
	bytes, nodes := len(e.Data), len(e.Nodes)
	fits := e.Kind == 0 && bytes == 0 && nodes == 0 ||
		e.Kind == 1 && bytes >= 1 && bytes <= 65536 && nodes == 0 ||
		e.Kind == 2 && bytes == 0 && isGroup(e.Nodes)
	return fits && e.Term >= 0 && e.Term <= most
}

// steps does things to the disk, up to the first that errs: then the journal is dead.
func (p *plain) steps(l ...func() api.Errno) api.Errno {
	for _, one := range l {
		if e := one(); e != api.OK {
			p.dead = true
			return e
		}
	}
	return api.OK
}

// append, sync, rename and remove are steps.
func (p *plain) append(name, b string) func() api.Errno {
	return func() api.Errno { return p.d.Append(p.prefix+name, []byte(b)) }
}

func (p *plain) sync(name string) func() api.Errno {
	return func() api.Errno { return p.d.Sync(p.prefix + name) }
}

func (p *plain) truncate(name string, n int) func() api.Errno {
	return func() api.Errno { return p.d.Truncate(p.prefix+name, n) }
}

func (p *plain) rename(old, name string) func() api.Errno {
	return func() api.Errno { return p.d.Rename(p.prefix+old, p.prefix+name) }
}

func (p *plain) remove(name string) func() api.Errno {
	return func() api.Errno {
		if !slices.Contains(p.d.List(), p.prefix+name) {
			return api.OK
		}
		return p.d.Remove(p.prefix + name)
	}
}

// whole is the steps by which a file is written whole.
func (p *plain) whole(name, b string) []func() api.Errno {
	return []func() api.Errno{p.remove(name + "~"), p.append(name+"~", b), p.sync(name + "~"), p.rename(name+"~", name)}
}

// log is the log written anew.
func (p *plain) log() string {
	var b strings.Builder
	b.WriteString(baseRecord(p.base, p.under, p.nodes...) + termRecord(p.term, p.vote))
	for i, one := range p.entries {
		b.WriteString(entryRecord(p.base+1+i, one))
	}
	return b.String()
}

// setTerm is SetTerm.
func (p *plain) setTerm(term, vote int) api.Errno {
	switch {
	case p.dead:
		return api.ErrDead
	case term < p.term || term > most || vote < -1 || vote > 6:
		return api.ErrArg
	case term == p.term && p.vote != -1 && vote != p.vote:
		return api.ErrArg
	case term == p.term && vote == p.vote:
		return api.OK
	}
	e := p.steps(p.append("-log", termRecord(term, vote)), p.sync("-log"))
	if e == api.OK {
		p.term, p.vote = term, vote
	}
	return e
}

// lay is Append.
func (p *plain) lay(l ...api.Entry) api.Errno {
	if p.dead {
		return api.ErrDead
	}
	records := ""
	for i, one := range l {
		if !isEntry(one) || p.last()+1+i > most {
			return api.ErrArg
		}
		records += entryRecord(p.last()+1+i, one)
	}
	if len(l) == 0 {
		return api.OK
	}
	e := p.steps(p.append("-log", records), p.sync("-log"))
	if e == api.OK {
		p.entries = append(p.entries, l...)
	}
	return e
}

// cut is Cut.
func (p *plain) cut(from int) api.Errno {
	switch {
	case p.dead:
		return api.ErrDead
	case from <= p.base:
		return api.ErrArg
	case from > p.last():
		return api.OK
	}
	e := p.steps(p.append("-log", cutRecord(from)), p.sync("-log"))
	if e == api.OK {
		p.entries = p.entries[:from-p.base-1]
	}
	return e
}

// compact is Compact.
func (p *plain) compact(index int, data string) api.Errno {
	one, has := p.at(index)
	switch {
	case p.dead:
		return api.ErrDead
	case !has || len(data) > 1<<19:
		return api.ErrArg
	}
	nodes, _ := p.groupOf(index)
	return p.settle(index, one.Term, nodes, data)
}

// install is Install.
func (p *plain) install(index, term int, nodes []int, data string) api.Errno {
	switch {
	case p.dead:
		return api.ErrDead
	case index <= p.base || index > most || term < 0 || term > most || !isGroup(nodes) || len(data) > 1<<19:
		return api.ErrArg
	}
	return p.settle(index, term, nodes, data)
}

// rebased is what it is to be with another base.
func (p *plain) rebased(index, term int, nodes []int, data string) plain {
	q := *p
	q.base, q.under, q.nodes, q.data, q.entries = index, term, nodes, data, nil
	if one, has := p.at(index); has && one.Term == term {
		q.entries = slices.Clone(p.entries[index-p.base:])
	}
	return q
}

// settle saves a snapshot and writes the log anew.
func (p *plain) settle(index, term int, nodes []int, data string) api.Errno {
	q := p.rebased(index, term, nodes, data)
	e := p.steps(slices.Concat(p.whole("-snap", snapshotOf(index, term, nodes, data)), p.whole("-log", q.log()))...)
	if e == api.OK {
		*p = q
	}
	return e
}

// cursor takes numbers and bytes.
type cursor struct {
	left string
	bad  bool
}

func (c *cursor) num() int {
	n, long := binary.Uvarint([]byte(c.left))
	if long <= 0 || n > 1<<62 || nums(int(n)) != c.left[:long] {
		c.left, c.bad = "", true
		return 0
	}
	c.left = c.left[long:]
	return int(n)
}

func (c *cursor) row() string {
	n := c.num()
	if n > len(c.left) {
		c.left, c.bad = "", true
		return ""
	}
	b := c.left[:n]
	c.left = c.left[n:]
	return b
}

func (c *cursor) group() []int {
	var l []int
	for n := c.num(); n > 0 && !c.bad && len(l) < 8; n-- {
		l = append(l, c.num())
	}
	return l
}

// unframed is what the record at the beginning of bytes holds, and what stands behind it.
func unframed(b string) (held, rest string, ok bool) {
	if len(b) < 12 || sum(b[:4]) != b[4:8] {
		return "", "", false
	}
	n := int(binary.LittleEndian.Uint32([]byte(b)))
	if n > 1<<20 || len(b) < 12+n || sum(b[:8+n]) != b[8+n:12+n] {
		return "", "", false
	}
	return b[8 : 8+n], b[12+n:], true
}

// open is Open on a disk.
func plainOpen(d *disk.Disk, prefix string, nodes ...int) (*plain, api.Errno) {
	if d == nil || prefix == "" || len(prefix) > 20 || !isGroup(nodes) {
		return nil, api.ErrArg
	}
	p := &plain{d: d, prefix: prefix, vote: -1, nodes: nodes}
	if e := p.steps(p.remove("-log~"), p.remove("-snap~")); e != api.OK {
		return nil, e
	}
	base, under, group, text, ok := p.readSnapshot()
	if !ok {
		return nil, api.ErrForm
	}
	log, none := d.Read(prefix + "-log")
	torn := ""
	if none == api.OK {
		if torn, ok = p.readLog(string(log)); !ok {
			return nil, api.ErrForm
		}
	}
	if base < p.base {
		return nil, api.ErrForm
	}
	if torn != "" {
		if e := p.steps(p.truncate("-log", len(log)-len(torn)), p.sync("-log")); e != api.OK {
			return nil, e
		}
	}
	if base == p.base {
		p.data = text
	} else {
		*p = p.rebased(base, under, group, text)
	}
	if none == api.OK && base == p.base && strings.HasPrefix(string(log), baseRecord(p.base, p.under, p.nodes...)) {
		return p, api.OK
	}
	if e := p.steps(p.whole("-log", p.log())...); e != api.OK {
		return nil, e
	}
	return p, api.OK
}

// readSnapshot is what the disk has of one; without one, nothing.
func (p *plain) readSnapshot() (base, under int, nodes []int, text string, ok bool) {
	b, none := p.d.Read(p.prefix + "-snap")
	if none != api.OK {
		return 0, 0, nil, "", true
	}
	held, rest, ok := unframed(string(b))
	c := &cursor{left: held}
	base, under, nodes = c.num(), c.num(), c.group()
	text = c.row()
	ok = ok && rest == "" && !c.bad && c.left == "" && base >= 1 && base <= most && under <= most && isGroup(nodes)
	return base, under, nodes, text, ok
}

// readLog does what the records say; what stands behind the last whole one.
func (p *plain) readLog(log string) (torn string, ok bool) {
	held, rest, ok := unframed(log)
	if !ok || !strings.HasPrefix(held, "\x01") {
		return "", false
	}
	c := &cursor{left: held[1:]}
	p.base, p.under, p.nodes = c.num(), c.num(), c.group()
	if c.bad || c.left != "" || p.base > most || p.under > most || !isGroup(p.nodes) {
		return "", false
	}
	for {
		held, behind, ok := unframed(rest)
		if !ok {
			return rest, true
		}
		if !p.readRecord(held) {
			return "", false
		}
		rest = behind
	}
}

// readRecord does what a record says, as the calls do it on a disk without an end.
func (p *plain) readRecord(held string) bool {
	if held == "" {
		return false
	}
	q := p.free()
	c := &cursor{left: held[1:]}
	e := api.ErrForm
	switch held[0] {
	case 2:
		term, vote := c.num(), c.num()-1
		e = q.setTerm(term, vote)
	case 3:
		index := c.num()
		one := api.Entry{Term: c.num(), Kind: c.num()}
		one.Data, one.Nodes = []byte(c.row()), c.group()
		if index == p.last()+1 {
			e = q.lay(one)
		}
	case 4:
		if from := c.num(); from <= p.last()+1 {
			e = q.cut(from)
		}
	}
	if e != api.OK || c.bad || c.left != "" {
		return false
	}
	d := p.d
	*p = *q
	p.d = d
	return true
}

// shown is an entry as a text.
func shown(e api.Entry) string { return fmt.Sprintf("%d/%d/%x/%v", e.Term, e.Kind, e.Data, e.Nodes) }

// state is all that a plain one has.
func (p *plain) state() string {
	var b strings.Builder
	nodes, by := p.groupOf(p.last())
	fmt.Fprintf(&b, "term %d vote %d, base %d %d %v %x, nodes %v %d, entries", p.term, p.vote, p.base, p.under, p.nodes, p.data, nodes, by)
	for _, one := range p.entries {
		b.WriteString(" " + shown(one))
	}
	return b.String()
}

// stateOf is all that a journal tells.
func stateOf(j *journal.Journal) string {
	var b strings.Builder
	term, vote := j.Term()
	base, under := j.Base()
	text, first := j.Snapshot()
	nodes, by := j.Nodes()
	last, _ := j.Last()
	fmt.Fprintf(&b, "term %d vote %d, base %d %d %v %x, nodes %v %d, entries", term, vote, base, under, first, text, nodes, by)
	for index := base + 1; index <= last; index++ {
		one, e := j.At(index)
		if e != api.OK {
			fmt.Fprintf(&b, " none(%d)", e)
			continue
		}
		b.WriteString(" " + shown(one))
	}
	return b.String()
}

// room is an empty disk.
func room(t *testing.T, n int) *disk.Disk {
	t.Helper()
	d, e := disk.New(n)
	answers(t, "disk.New", e, api.OK)
	return d
}

// answers tells of an error that is not the one that is asked for.
func answers(t *testing.T, what string, e, want api.Errno) {
	t.Helper()
	if e != want {
		t.Errorf("%s: %v, want %v", what, e, want)
	}
}

// short is a text for a message.
func short(text string) string {
	return fmt.Sprintf("%d %q", len(text), text[:min(len(text), 200)])
}

// open is a journal that must be there.
func open(t *testing.T, what string, d *disk.Disk, prefix string, nodes ...int) *journal.Journal {
	t.Helper()
	j, e := journal.Open(d, prefix, nodes...)
	if j == nil || e != api.OK {
		t.Fatalf("%s: Open: %v", what, e)
	}
	return j
}

// file is a file of a disk: the bytes that last, and the others.
type file struct{ lasts, others string }

// files is all files of a disk; what lasts is told by a crash of a copy.
func files(d *disk.Disk) map[string]file {
	c := d.Copy()
	c.Crash(0)
	l := map[string]file{}
	for _, name := range d.List() {
		all, _ := d.Read(name)
		lasts, _ := c.Read(name)
		l[name] = file{string(lasts), string(all[len(lasts):])}
	}
	return l
}

// sameFiles tells of files that are others.
func sameFiles(t *testing.T, what string, got, want map[string]file) {
	t.Helper()
	if maps.Equal(got, want) {
		return
	}
	t.Errorf("%s: files %q, want %q", what, slices.Sorted(maps.Keys(got)), slices.Sorted(maps.Keys(want)))
	for _, name := range slices.Sorted(maps.Keys(want)) {
		if got[name] != want[name] {
			t.Errorf("%s: %s: %s %s, want %s %s", what, name, short(got[name].lasts), short(got[name].others), short(want[name].lasts), short(want[name].others))
		}
	}
	t.FailNow()
}

// lay makes a file of a disk, all of which lasts.
func lay(t *testing.T, d *disk.Disk, name, b string) {
	t.Helper()
	d.Remove(name)
	answers(t, name, d.Append(name, []byte(b)), api.OK)
	answers(t, name, d.Sync(name), api.OK)
}

// muddle is a number that looks like none near it.
func muddle(i int) int {
	v := (uint64(i) + 1) * 0x9e3779b97f4a7c15
	v = (v ^ v>>29) * 0xbf58476d1ce4e5b9
	return int((v ^ v>>32) >> 1)
}
