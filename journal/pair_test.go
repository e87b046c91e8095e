package journal_test

import (
	"fmt"
	"math"
	"slices"
	"strings"
	"testing"

	"haystack/api"
	"haystack/disk"
	"haystack/journal"
)

// pair is a journal and the plain one that it is held against; both are asked the same.
type pair struct {
	t    *testing.T
	j    *journal.Journal
	p    *plain
	d    *disk.Disk
	done []string
	may  []string // what may be there behind a crash: what was behind a step from the last one that answered OK on
}

// begin is a pair on empty disks.
func begin(t *testing.T, much int, nodes ...int) *pair {
	t.Helper()
	return on(t, room(t, much), nodes...)
}

// on is a pair on a disk, and on a copy of it.
func on(t *testing.T, d *disk.Disk, nodes ...int) *pair {
	t.Helper()
	x := &pair{t: t, d: d, p: &plain{d: d.Copy(), prefix: "p", nodes: nodes}}
	if x.open() != api.OK {
		t.Fatalf("%s: none", x.what())
	}
	return x
}

// copied is a pair like this one, opened anew.
func (x *pair) copied() *pair {
	x.t.Helper()
	y := on(x.t, x.d.Copy(), 6) // the group is asked for no more
	y.done = append(slices.Clone(x.done), y.done...)
	return y
}

// what is what was done last.
func (x *pair) what() string {
	return strings.Join(x.done[max(0, len(x.done)-12):], ", ")
}

// did notes that something was done.
func (x *pair) did(format string, args ...any) {
	x.done = append(x.done, fmt.Sprintf(format, args...))
}

// open opens both.
func (x *pair) open() api.Errno {
	x.t.Helper()
	prefix, nodes := x.p.prefix, x.p.nodes
	j, e := journal.Open(x.d, prefix, nodes...)
	p, want := plainOpen(x.p.d, prefix, nodes...)
	x.did("Open: %d", e)
	answers(x.t, x.what(), e, want)
	if (j == nil) != (e != api.OK) {
		x.t.Fatalf("%s: a journal: %t", x.what(), j != nil)
	}
	x.j = j
	if want == api.OK {
		x.p, x.may = p, []string{p.state()}
		x.holds()
	}
	return e
}

// call tells of a change that answers something else. The halves are what else may be there behind a crash on the way.
func (x *pair) call(what string, got func() api.Errno, want func(p *plain) api.Errno, halves ...func(p *plain) api.Errno) api.Errno {
	x.t.Helper()
	if !x.p.dead {
		for _, step := range append(halves, want) {
			q := x.p.free()
			step(q)
			x.may = append(x.may, q.state())
		}
	}
	e, asked := got(), want(x.p)
	x.did("%s: %d", what, e)
	if e != asked {
		x.t.Fatalf("%s, want %v", x.what(), asked)
	}
	if !x.p.dead {
		x.may = []string{x.p.state()}
	}
	return e
}

// setTerm, append, cut, compact and install are the five changes.
func (x *pair) setTerm(term, vote int) api.Errno {
	x.t.Helper()
	return x.call(fmt.Sprintf("SetTerm(%d, %d)", term, vote), func() api.Errno { return x.j.SetTerm(term, vote) }, func(p *plain) api.Errno { return p.setTerm(term, vote) })
}

func (x *pair) append(l ...api.Entry) api.Errno {
	x.t.Helper()
	var halves []func(p *plain) api.Errno
	texts := make([]string, len(l))
	for i, one := range l {
		halves = append(halves, func(p *plain) api.Errno { return p.lay(l[:i]...) })
		texts[i] = fmt.Sprintf("%d/%d/%d bytes/%v", one.Term, one.Kind, len(one.Data), one.Nodes)
	}
	return x.call(fmt.Sprintf("Append(%s)", strings.Join(texts, " ")), func() api.Errno { return x.j.Append(l...) }, func(p *plain) api.Errno { return p.lay(l...) }, halves...)
}

func (x *pair) cut(from int) api.Errno {
	x.t.Helper()
	return x.call(fmt.Sprintf("Cut(%d)", from), func() api.Errno { return x.j.Cut(from) }, func(p *plain) api.Errno { return p.cut(from) })
}

func (x *pair) compact(index int, text string) api.Errno {
	x.t.Helper()
	return x.call(fmt.Sprintf("Compact(%d, %d bytes)", index, len(text)), func() api.Errno { return x.j.Compact(index, []byte(text)) }, func(p *plain) api.Errno { return p.compact(index, text) })
}

func (x *pair) install(index, term int, nodes []int, text string) api.Errno {
	x.t.Helper()
	return x.call(fmt.Sprintf("Install(%d, %d, %v, %d bytes)", index, term, nodes, len(text)), func() api.Errno { return x.j.Install(index, term, nodes, []byte(text)) }, func(p *plain) api.Errno { return p.install(index, term, nodes, text) })
}

// fuse lets so many more things be done on both disks.
func (x *pair) fuse(n int) {
	x.did("Fuse(%d)", n)
	x.d.Fuse(n)
	x.p.d.Fuse(n)
}

// crash is one of both disks.
func (x *pair) crash(draw int) {
	x.did("Crash(%d)", draw)
	x.d.Crash(draw)
	x.p.d.Crash(draw)
}

// reopen is a crash, and Open; what is there then must be what may be.
func (x *pair) reopen(draw int) {
	x.t.Helper()
	may := x.may
	x.crash(draw)
	answers(x.t, x.what(), x.open(), api.OK)
	if got := stateOf(x.j); !slices.Contains(may, got) {
		x.t.Fatalf("%s: %s, want one of %q", x.what(), got, may)
	}
}

// holds tells of a journal that does not say what the plain one says, or whose disk has not the same.
func (x *pair) holds() {
	x.t.Helper()
	sameFiles(x.t, x.what(), files(x.d), files(x.p.d))
	if x.p.dead {
		if got := stateOf(x.j); !slices.Contains(x.may, got) {
			x.t.Fatalf("%s: dead: %s, want one of %q", x.what(), got, x.may)
		}
		return
	}
	x.says()
}

// says tells of a journal that does not say what the plain one says.
func (x *pair) says() {
	x.t.Helper()
	j, p := x.j, x.p
	if term, vote := j.Term(); term != p.term || vote != p.vote {
		x.t.Fatalf("%s: Term %d %d, want %d %d", x.what(), term, vote, p.term, p.vote)
	}
	if index, term := j.Base(); index != p.base || term != p.under {
		x.t.Fatalf("%s: Base %d %d, want %d %d", x.what(), index, term, p.base, p.under)
	}
	under := p.under
	if one, has := p.at(p.last()); has {
		under = one.Term
	}
	if index, term := j.Last(); index != p.last() || term != under {
		x.t.Fatalf("%s: Last %d %d, want %d %d", x.what(), index, term, p.last(), under)
	}
	nodes, by := j.Nodes()
	if want, number := p.groupOf(p.last()); !slices.Equal(nodes, want) || by != number {
		x.t.Fatalf("%s: Nodes %v %d, want %v %d", x.what(), nodes, by, want, number)
	}
	text, first := j.Snapshot()
	if string(text) != p.data || !slices.Equal(first, p.nodes) {
		x.t.Fatalf("%s: Snapshot %s %v, want %s %v", x.what(), short(string(text)), first, short(p.data), p.nodes)
	}
	for index := p.base - 2; index <= p.last()+3; index++ {
		x.saysAt(index)
	}
	for _, index := range []int{math.MinInt, -1, 0, 1, p.base / 2, most, most + 1, math.MaxInt - 1, math.MaxInt} {
		x.saysAt(index)
	}
}

// saysAt tells of a number of which the journal does not say what the plain one says.
func (x *pair) saysAt(index int) {
	x.t.Helper()
	one, e := x.j.At(index)
	want, has := x.p.at(index)
	if shown(one) != shown(want) || (e == api.OK) != has || e != api.OK && e != api.ErrNone {
		x.t.Fatalf("%s: At(%d): %s %v, want %s %t", x.what(), index, shown(one), e, shown(want), has)
	}
	term, known := want.Term, has
	if index == x.p.base {
		term, known = x.p.under, true
	}
	if got, ok := x.j.TermAt(index); got != term || ok != known {
		x.t.Fatalf("%s: TermAt(%d): %d %t, want %d %t", x.what(), index, got, ok, term, known)
	}
}
