package journal_test

import (
	"fmt"
	"slices"
	"strings"
	"testing"

	"haystack/api"
	"haystack/disk"
	"haystack/journal"
)

// P15.4

// dice is numbers, one behind the other.
type dice int

func (r *dice) below(n int) int {
	*r = dice(muddle(int(*r)))
	return int(*r) % n
}

// entries is some of any kind, and now and then one that is none.
func (r *dice) entries(term int) []api.Entry {
	var l []api.Entry
	for range r.below(4) {
		switch r.below(8) {
		case 0, 1:
			l = append(l, empty(term))
		case 2, 3:
			l = append(l, config(term, r.below(3), 3+r.below(4)))
		case 4:
			l = append(l, data(max(0, term-r.below(3)), strings.Repeat("d", 1+r.below(300))))
		default:
			l = append(l, data(term, fmt.Sprintf("data %d", r.below(1000))))
		}
	}
	if r.below(40) == 0 {
		l = append(l, data(term, ""))
	}
	return l
}

// step is any call, most often one that may be.
func (r *dice) step(x *pair) api.Errno {
	x.t.Helper()
	p := x.p
	switch r.below(12) {
	case 0:
		return x.setTerm(p.term+r.below(3)-r.below(20)/19, r.below(8)-1)
	case 1:
		return x.setTerm(p.term, p.vote)
	case 2, 3, 4, 5, 6:
		return x.append(r.entries(p.term)...)
	case 7, 8:
		return x.cut(p.last() + 2 - r.below(5))
	case 9:
		return x.compact(p.base+r.below(len(p.entries)+2), fmt.Sprintf("snapshot %d", r.below(100)))
	case 10:
		index := p.base + r.below(len(p.entries)+3)
		term := p.term
		if one, has := p.at(index); has && r.below(2) == 0 {
			term = one.Term
		}
		return x.install(index, term, []int{r.below(3), 3 + r.below(4)}, fmt.Sprintf("installed %d", r.below(100)))
	}
	x.holds()
	return api.OK
}

// comesBack is a crash, and Open, which may be cut off time and again by a fuse and another crash; what is there in the end must be what may be, and stays.
func (x *pair) comesBack(r *dice) {
	x.t.Helper()
	may := x.may
	x.crash(r.below(400))
	for fuse := r.below(3); ; fuse += r.below(2) {
		x.fuse(fuse)
		e := x.open()
		if r.below(2) == 0 || e != api.OK {
			x.crash(r.below(400))
		}
		if e == api.OK {
			break
		}
	}
	x.fuse(-1)
	if got := stateOf(x.j); !slices.Contains(may, got) {
		x.t.Fatalf("%s: %s, want one of %q", x.what(), got, may)
	}
	x.may = []string{stateOf(x.j)}
	for range 2 {
		x.reopen(r.below(400))
	}
}

// The fuse at each place of a script, and each way of a crash behind it.
func TestCrashAnywhere(t *testing.T) {
	for round := range 40 {
		for fuse, whole := 0, false; !whole; fuse++ {
			x := begin(t, wide, 0, 1, 2)
			r, other := dice(round), dice(round*1000+fuse)
			x.fuse(fuse)
			whole = true
			for range 12 {
				if e := r.step(x); e == api.ErrDead {
					whole = false
					break
				}
			}
			x.holds()
			x.comesBack(&other)
			for range 6 { // and it goes on
				other.step(x)
			}
			x.holds()
			x.reopen(other.below(400))
		}
	}
}

// Long scripts, with a fuse and a crash now and then.
func TestScripts(t *testing.T) {
	for round := range 60 {
		r := dice(round * 7919)
		x := begin(t, wide, r.below(3), 4)
		for range 150 {
			if r.below(9) == 0 {
				x.fuse(r.below(9))
			}
			e := r.step(x)
			if e == api.ErrDead || r.below(25) == 0 {
				x.holds()
				x.comesBack(&r)
			}
		}
		x.holds()
	}
}

// A record that a crash left half of, or of which some bytes are there and some of several entries: each way there is.
func TestCrashOfAnAppend(t *testing.T) {
	l := []api.Entry{data(3, "first"), config(3, 4, 5), empty(3)}
	long := 0
	for i, one := range l {
		long += len(entryRecord(8+i, one))
	}
	for draw := range long + 1 {
		x := some(t)
		x.fuse(1)
		answers(t, x.what(), x.append(l...), api.ErrDead)
		x.reopen(draw)
		there, left := 0, draw
		for i, one := range l {
			if left >= len(entryRecord(8+i, one)) {
				there++
			}
			left -= len(entryRecord(8+i, one))
		}
		if last, _ := x.j.Last(); last != 7+there {
			t.Errorf("Crash(%d): Last %d, want %d", draw, last, 7+there)
		}
	}
}

// Two journals of one disk are none of each other's.
func TestTwoOfOneDisk(t *testing.T) {
	d := room(t, wide)
	a, b := open(t, "a", d, "a", 0), open(t, "a-", d, "a-", 1)
	for i := range 20 {
		answers(t, "a", a.Append(data(i, "of a")), api.OK)
		answers(t, "a-", b.Append(data(i, "of another"), empty(i)), api.OK)
		answers(t, "a-", b.Compact(2*i+1, []byte("another")), api.OK)
	}
	was, other := stateOf(a), stateOf(b)
	d.Crash(0)
	a, b = open(t, "a", d, "a", 3), open(t, "a-", d, "a-", 3)
	if stateOf(a) != was || stateOf(b) != other {
		t.Errorf("%s and %s, want %s and %s", stateOf(a), stateOf(b), was, other)
	}
}

// P15.5

// spare is nodes and bytes with room behind them, and how these are to be.
func spareNodes(nodes ...int) []int {
	l := append(make([]int, 0, len(nodes)+5), nodes...)
	for i := len(l); i < cap(l); i++ {
		l[:cap(l)][i] = 77
	}
	return l
}

func spareBytes(text string) []byte {
	b := append(make([]byte, 0, len(text)+5), text...)
	for i := len(b); i < cap(b); i++ {
		b[:cap(b)][i] = 'S'
	}
	return b
}

// spoilNodes and spoilBytes tell of what was changed, and change all of it, the spare room too.
func spoilNodes(t *testing.T, what string, l, want []int) {
	t.Helper()
	if !slices.Equal(l, want) {
		t.Errorf("%s: nodes %v, want %v", what, l, want)
	}
	for i := range l[:cap(l)] {
		if i >= len(l) && l[:cap(l)][i] != 77 {
			t.Errorf("%s: the room behind nodes has changed", what)
		}
		l[:cap(l)][i] = 99
	}
}

func spoilBytes(t *testing.T, what string, b []byte, want string) {
	t.Helper()
	if string(b) != want {
		t.Errorf("%s: %s, want %s", what, short(string(b)), short(want))
	}
	for i := range b[:cap(b)] {
		if i >= len(b) && b[:cap(b)][i] != 'S' {
			t.Errorf("%s: the room behind bytes has changed", what)
		}
		b[:cap(b)][i] = '!'
	}
}

func TestWhatIsHandedIn(t *testing.T) {
	for _, fuse := range []int{-1, 0, 1, 3, 5} { // with an error, too
		d := room(t, wide)
		nodes := spareNodes(0, 2)
		j, _ := journal.Open(d, "p", nodes...)
		spoilNodes(t, "Open", nodes, []int{0, 2})
		was := "term 0 vote -1, base 0 0 [0 2] , nodes [0 2] 0, entries"
		same := func(what string) {
			t.Helper()
			if got := stateOf(j); got != was {
				t.Errorf("%s: %s, want %s", what, got, was)
			}
			if fuse < 0 {
				if got := stateOf(open(t, what, d.Copy(), "p", 5)); got != was {
					t.Errorf("%s: on the disk: %s, want %s", what, got, was)
				}
			}
		}
		same("Open")
		text, group := spareBytes("text"), spareNodes(1, 4)
		l := append(make([]api.Entry, 0, 6), api.Entry{Term: 1, Kind: 1, Data: text}, api.Entry{Term: 1, Kind: 2, Nodes: group}, empty(2))
		if fuse >= 0 {
			answers(t, "Append", j.Append(empty(1), empty(1)), api.OK)
			was = "term 0 vote -1, base 0 0 [0 2] , nodes [0 2] 0, entries 1/0//[] 1/0//[]"
			d.Fuse(fuse)
		} else {
			was = "term 0 vote -1, base 0 0 [0 2] , nodes [1 4] 2, entries 1/1/74657874/[] 1/2//[1 4] 2/0//[]"
		}
		if fuse < 2 {
			j.Append(l...)
			if len(l) != 3 || shown(l[0]) != shown(data(1, "text")) || shown(l[1]) != shown(config(1, 1, 4)) || shown(l[2]) != shown(empty(2)) {
				t.Errorf("Append: the entries handed in are %v", l)
			}
			for _, one := range l[3:cap(l)] {
				if shown(one) != shown(api.Entry{}) {
					t.Errorf("Append: the room behind the entries has changed")
				}
			}
			spoilBytes(t, "Append", text, "text")
			spoilNodes(t, "Append", group, []int{1, 4})
			for i := range l[:cap(l)] {
				l[:cap(l)][i] = api.Entry{Term: 99, Kind: 99}
			}
			same("Append")
		}
		text = spareBytes("compact")
		if e := j.Compact(2, text); e == api.OK {
			was = "term 0 vote -1, base 2 1 [1 4] 636f6d70616374, nodes [1 4] 2, entries 2/0//[]"
		}
		spoilBytes(t, "Compact", text, "compact")
		same("Compact")
		text, group = spareBytes("install"), spareNodes(0, 6)
		if e := j.Install(5, 3, group, text); e == api.OK {
			was = "term 0 vote -1, base 5 3 [0 6] 696e7374616c6c, nodes [0 6] 5, entries"
		}
		spoilBytes(t, "Install", text, "install")
		spoilNodes(t, "Install", group, []int{0, 6})
		same("Install")
		nodes = spareNodes(1, 0) // with an error of its own, too
		if _, e := journal.Open(d, "q", nodes...); e != api.ErrArg {
			t.Errorf("Open of no group: %v", e)
		}
		spoilNodes(t, "Open", nodes, []int{1, 0})
		same("Open of another one")
	}
}

func TestWhatIsAnswered(t *testing.T) {
	x := some(t)
	j := x.j
	answers(t, "Append", x.append(data(3, "eight"), config(3, 2, 3)), api.OK)
	for range 2 {
		was := stateOf(j)
		same := func(what string) {
			t.Helper()
			if got := stateOf(j); got != was {
				t.Fatalf("%s: %s, want %s", what, got, was)
			}
			x.holds()
		}
		for index := 4; index <= 9; index++ {
			one, _ := j.At(index)
			two, _ := j.At(index)
			spoil(one.Data, one.Nodes)
			if want, _ := x.p.at(index); shown(two) != shown(want) {
				t.Errorf("At(%d): one answer changes another: %s", index, shown(two))
			}
			same("At")
		}
		nodes, _ := j.Nodes()
		others, _ := j.Nodes()
		spoil(nil, nodes)
		if !slices.Equal(others, []int{2, 3}) {
			t.Errorf("Nodes: one answer changes another: %v", others)
		}
		same("Nodes")
		text, nodes := j.Snapshot()
		more, others := j.Snapshot()
		spoil(text, nodes)
		if string(more) != "snap" || !slices.Equal(others, []int{0, 1, 2}) {
			t.Errorf("Snapshot: one answer changes another: %q %v", more, others)
		}
		same("Snapshot")
		answers(t, "Cut", x.cut(9), api.OK) // then the group is that of an entry, and at last of the base
		answers(t, "Append", x.append(config(4, 2, 3)), api.OK)
		answers(t, "SetTerm", x.setTerm(x.p.term+1, 1), api.OK) // what was answered is not written either
		x.reopen(0)
		j = x.j
	}
	x = begin(t, wide, 0, 3)
	nodes, _ := x.j.Nodes()
	_, others := x.j.Snapshot()
	spoil(nil, nodes)
	spoil(nil, others)
	x.holds()
	answers(t, "Append", x.append(empty(1), empty(1)), api.OK)
	answers(t, "Compact", x.compact(1, "snap"), api.OK)
	nodes, _ = x.j.Nodes()
	spoil(nil, nodes)
	x.holds()
	answers(t, "Compact", x.compact(2, "snap"), api.OK)
	x.holds()
	x.reopen(0)
}

// spoil changes bytes and nodes, and the room behind them.
func spoil(b []byte, nodes []int) {
	for i := range b[:cap(b)] {
		b[:cap(b)][i] = '!'
	}
	for i := range nodes[:cap(nodes)] {
		nodes[:cap(nodes)][i] = 99
	}
}

// What was answered stays what it is, whatever is called later.
func TestAnswersStay(t *testing.T) {
	x := some(t)
	one, _ := x.j.At(5)
	group, _ := x.j.At(6)
	nodes, _ := x.j.Nodes()
	text, first := x.j.Snapshot()
	x.cut(5)
	x.append(data(9, "FIVE"), config(9, 5, 6), data(9, "SEVEN"))
	x.compact(6, "SNAP")
	x.install(9, 9, []int{4}, "more")
	if shown(one) != shown(data(2, "five")) || shown(group) != shown(config(3, 1)) || !slices.Equal(nodes, []int{1}) || string(text) != "snap" || !slices.Equal(first, []int{0, 1, 2}) {
		t.Errorf("%s %s %v %q %v", shown(one), shown(group), nodes, text, first)
	}
}

func TestNone(t *testing.T) {
	for what, j := range map[string]*journal.Journal{"nil": nil, "of no Open": {}} {
		for _, e := range []api.Errno{
			j.SetTerm(0, 0), j.SetTerm(1, -1), j.SetTerm(-1, -9), j.Append(), j.Append(empty(1)), j.Append(empty(-1)), j.Cut(1), j.Cut(0), j.Cut(-1),
			j.Compact(0, nil), j.Compact(1, []byte("x")), j.Install(1, 1, []int{0}, nil), j.Install(0, 0, nil, nil),
		} {
			answers(t, what, e, api.ErrArg)
		}
		if term, vote := j.Term(); term != 0 || vote != 0 {
			t.Errorf("%s: Term %d %d", what, term, vote)
		}
		if index, term := j.Base(); index != 0 || term != 0 {
			t.Errorf("%s: Base %d %d", what, index, term)
		}
		if index, term := j.Last(); index != 0 || term != 0 {
			t.Errorf("%s: Last %d %d", what, index, term)
		}
		for _, index := range []int{-1, 0, 1, most} {
			if one, e := j.At(index); shown(one) != shown(api.Entry{}) || e != api.ErrNone {
				t.Errorf("%s: At(%d): %s %v", what, index, shown(one), e)
			}
			if term, has := j.TermAt(index); term != 0 || has {
				t.Errorf("%s: TermAt(%d): %d %t", what, index, term, has)
			}
		}
		if nodes, index := j.Nodes(); len(nodes) != 0 || index != 0 {
			t.Errorf("%s: Nodes %v %d", what, nodes, index)
		}
		if text, nodes := j.Snapshot(); len(text) != 0 || len(nodes) != 0 {
			t.Errorf("%s: Snapshot %q %v", what, text, nodes)
		}
	}
	if j, e := journal.Open(&disk.Disk{}, "p", 0); j != nil || e != api.ErrFull { // a disk without room
		t.Errorf("a journal: %t, %v", j != nil, e)
	}
}

// Behind a crash the objects over a disk are used no more, but do not panic.
func TestBehindACrash(t *testing.T) {
	for fuse := range 4 {
		x := some(t)
		x.d.Fuse(fuse)
		x.j.Append(data(3, "lost"))
		x.d.Crash(0)
		for range 2 {
			x.j.Append(data(4, "more"))
			x.j.SetTerm(9, 1)
			x.j.Cut(5)
			x.j.Compact(4, nil)
			x.j.Install(9, 9, []int{1}, nil)
			x.d.Remove("p-log", "p-snap")
		}
		stateOf(x.j)
	}
}

// Twins: the same calls make the same.
func TestTwins(t *testing.T) {
	var seen []string
	for range 2 {
		r := dice(5)
		x := begin(t, wide, 0, 1)
		for range 60 {
			r.step(x)
		}
		seen = append(seen, stateOf(x.j)+fmt.Sprint(files(x.d)))
	}
	if seen[0] != seen[1] {
		t.Errorf("%s, then %s", short(seen[0]), short(seen[1]))
	}
}
