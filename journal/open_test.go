package journal_test

import (
	"fmt"
	"maps"
	"slices"
	"strconv"
	"strings"
	"testing"

	"haystack/api"
	"haystack/disk"
	"haystack/journal"
)

// P15.1

// noGroups is lists of nodes that are no group.
func noGroups() [][]int {
	return [][]int{
		nil, {}, {-1}, {7}, {8}, {-1, 0}, {0, 7}, {6, 7}, {0, 0}, {6, 6}, {1, 0}, {0, 2, 1}, {0, 1, 1}, {2, 0, 1}, {0, 1, 2, 3, 4, 5, 7},
		{0, 1, 2, 3, 4, 5, 5}, {0, 1, 2, 3, 4, 5, 6, 6}, {0, 1, 2, 3, 4, 5, 6, 7}, {-1, 0, 1, 2, 3, 4, 5, 6}, {6, 5, 4, 3, 2, 1, 0}, {most}, {1 << 62}, {-1 << 63}, {1<<63 - 1}, {0, 1<<63 - 1, 1},
	}
}

// refused tells of anything answered by Open but an error, and of a disk that is not as it was.
func refused(t *testing.T, what string, d *disk.Disk, prefix string, want api.Errno, nodes ...int) {
	t.Helper()
	was := files(d)
	if j, e := journal.Open(d, prefix, nodes...); j != nil || e != want {
		t.Errorf("%s: Open: a journal: %t, %v, want %v", what, j != nil, e, want)
	}
	sameFiles(t, what, files(d), was)
}

func TestOpenOfWhatIsNotToBe(t *testing.T) {
	if j, e := journal.Open(nil, "p", 0, 1, 2); j != nil || e != api.ErrArg {
		t.Errorf("no disk: a journal: %t, %v", j != nil, e)
	}
	for _, n := range []int{0, 21, 22, 40, 60, 64, 1 << 12} {
		prefix := strings.Repeat("p", n)
		for _, fuse := range []int{-1, 0} { // what may not be handed in comes ahead of a dead disk
			d := room(t, wide)
			lay(t, d, "-log", "none")
			lay(t, d, "-log~", "none")
			d.Fuse(fuse)
			refused(t, fmt.Sprintf("a prefix of %d bytes", n), d, prefix, api.ErrArg, 0, 1, 2)
		}
	}
	refused(t, "few signs of many bytes", room(t, wide), strings.Repeat("ä", 11), api.ErrArg, 0)
	for _, nodes := range noGroups() {
		for _, fuse := range []int{-1, 0} {
			d := room(t, wide)
			lay(t, d, "p-log~", "half")
			lay(t, d, "p-snap", "none")
			d.Fuse(fuse)
			refused(t, fmt.Sprintf("nodes %v", nodes), d, "p", api.ErrArg, nodes...)
		}
		d := room(t, wide) // though they are not needed
		lay(t, d, "p-log", baseRecord(0, 0, 0))
		refused(t, fmt.Sprintf("nodes %v over a log", nodes), d, "p", api.ErrArg, nodes...)
	}
}

func TestOpenOfAnyPrefix(t *testing.T) {
	for _, prefix := range []string{"p", "\x00", "\xff", "-", "~", "p-", "p-log", "log", strings.Repeat("p", 19), strings.Repeat("p", 20), strings.Repeat("\xff", 20), strings.Repeat("ä", 10)} {
		d := room(t, wide)
		j := open(t, prefix, d, prefix, 0, 1)
		answers(t, prefix, j.Append(data(1, "a"), data(1, "b")), api.OK)
		answers(t, prefix, j.Compact(1, []byte("s")), api.OK)
		if l := d.List(); !slices.Equal(l, []string{prefix + "-log", prefix + "-snap"}) {
			t.Errorf("%q: files %q", prefix, l)
		}
		j = open(t, prefix, d, prefix, 0, 1)
		if one, e := j.At(2); shown(one) != shown(data(1, "b")) || e != api.OK {
			t.Errorf("%q: At(2): %s %v", prefix, shown(one), e)
		}
	}
}

func TestOpenOfGroups(t *testing.T) {
	for bits := 1; bits < 1<<api.MaxNodes; bits++ {
		var nodes []int
		for n := range api.MaxNodes {
			if bits>>n&1 == 1 {
				nodes = append(nodes, n)
			}
		}
		x := begin(t, wide, nodes...)
		if got, by := x.j.Nodes(); !slices.Equal(got, nodes) || by != 0 {
			t.Errorf("nodes %v: Nodes %v %d", nodes, got, by)
		}
		want := map[string]file{"p-log": {baseRecord(0, 0, nodes...) + termRecord(0, -1), ""}}
		sameFiles(t, fmt.Sprintf("nodes %v", nodes), files(x.d), want)
		x.reopen(0)
	}
}

func TestOpenWithoutFiles(t *testing.T) {
	x := begin(t, wide, 0, 2)
	if got, want := stateOf(x.j), "term 0 vote -1, base 0 0 [0 2] , nodes [0 2] 0, entries"; got != want {
		t.Errorf("%s, want %s", got, want)
	}
	// the bytes: how many, their sum, Raw 1, Nums 0, 0, 2, 0, 2, the sum; and Raw 2, Nums 0, 0
	log := framed("\x01\x00\x00\x02\x00\x02") + framed("\x02\x00\x00")
	sameFiles(t, "the bytes", files(x.d), map[string]file{"p-log": {log, ""}})
	for fuse := range 4 {
		d := room(t, wide)
		d.Fuse(fuse)
		j, e := journal.Open(d, "p", 0, 2)
		want := []map[string]file{{}, {"p-log~": {"", log}}, {"p-log~": {log, ""}}, {"p-log": {log, ""}}}[fuse]
		if (j != nil) != (fuse == 3) || e != []api.Errno{api.ErrDead, api.ErrDead, api.ErrDead, api.OK}[fuse] {
			t.Errorf("Fuse(%d): a journal: %t, %v", fuse, j != nil, e)
		}
		sameFiles(t, fmt.Sprintf("Fuse(%d)", fuse), files(d), want)
	}
	open(t, "just room", room(t, len(log)), "p", 0, 2)
	refused(t, "a byte less", room(t, len(log)-1), "p", api.ErrFull, 0, 2)
	refused(t, "no room", room(t, 0), "p", api.ErrFull, 0, 2)
	d := room(t, wide)
	for i := range api.MaxFiles {
		answers(t, "a file", d.Append("f"+strconv.Itoa(i)), api.OK)
	}
	refused(t, "too many files", d, "p", api.ErrFull, 0, 2)
	answers(t, "Remove", d.Remove("f0"), api.OK)
	open(t, "just a file", d, "p", 0, 2)
}

// other is what stands on a disk that is none of a journal's.
var other = []string{"p", "p-", "p-lo", "p-log~~", "p-log~x", "p-logs", "p-sna", "p-snap~~", "p-snap~x", "P-log~", "q-log", "q-log~", "q-snap~", "-log~", "-snap~", "log~", "~", "pp-log~", "p-1", "p-list"}

func TestOpenRemoves(t *testing.T) {
	for halves := range 4 {
		for _, log := range []string{"", baseRecord(1, 1, 0) + termRecord(3, 0), baseRecord(0, 0, 0), baseRecord(1, 1, 0) + "torn"} {
			d := room(t, wide)
			for _, name := range other {
				lay(t, d, name, "of another")
			}
			for i, name := range []string{"p-log~", "p-snap~"} {
				if halves>>i&1 == 1 {
					lay(t, d, name, "half")
				}
			}
			if log != "" {
				lay(t, d, "p-log", log)
			}
			lay(t, d, "p-snap", snapshotOf(1, 1, []int{0}, "s"))
			opensAll(t, fmt.Sprintf("halves %02b, log %s", halves, short(log)), d, 3)
		}
	}
}

// opensAll tells of an Open that does not do what it is to do: with a fuse at each place, behind a crash, and once more.
func opensAll(t *testing.T, what string, d *disk.Disk, nodes ...int) {
	t.Helper()
	if e := opens(t, what, d.Copy(), nodes...); e != api.OK {
		t.Errorf("%s: Open: %v", what, e)
		return
	}
	for fuse := range 12 {
		x := &pair{t: t, d: d.Copy(), p: &plain{d: d.Copy(), prefix: "p", nodes: nodes}, done: []string{what}}
		x.fuse(fuse)
		e := x.open()
		sameFiles(t, x.what(), files(x.d), files(x.p.d))
		x.crash(fuse)
		answers(t, x.what(), x.open(), api.OK)
		state := stateOf(x.j)
		x.fuse(0) // nothing is left to be done
		answers(t, x.what(), x.open(), api.OK)
		x.crash(0)
		answers(t, x.what(), x.open(), api.OK)
		if got := stateOf(x.j); got != state {
			t.Errorf("%s: %s, want %s", x.what(), got, state)
		}
		if e == api.OK {
			return
		}
	}
	t.Errorf("%s: the fuse burns without an end", what)
}

// opens tells of an Open that answers something else than that of a plain one, or leaves another disk; nothing is to change with an error.
func opens(t *testing.T, what string, d *disk.Disk, nodes ...int) api.Errno {
	t.Helper()
	was := files(d)
	x := &pair{t: t, d: d, p: &plain{d: d.Copy(), prefix: "p", nodes: nodes}, done: []string{what}}
	e := x.open()
	if e != api.OK {
		sameFiles(t, what, files(d), was)
	}
	return e
}

// all7 is the greatest group.
var all7 = []int{0, 1, 2, 3, 4, 5, 6}

func TestOpenWithALog(t *testing.T) {
	long := data(2, strings.Repeat("x", 65536))
	for i, one := range []struct {
		log  []string
		want string
	}{
		{nil, "term 0 vote -1, base 0 0 [1 5] , nodes [1 5] 0, entries"},
		{[]string{termRecord(0, -1)}, "term 0 vote -1, base 0 0 [1 5] , nodes [1 5] 0, entries"},
		{[]string{termRecord(0, 6)}, "term 0 vote 6, base 0 0 [1 5] , nodes [1 5] 0, entries"},
		{[]string{termRecord(0, -1), termRecord(0, 3), termRecord(0, 3), termRecord(1, 2), termRecord(1, 2), termRecord(7, -1)}, "term 7 vote -1, base 0 0 [1 5] , nodes [1 5] 0, entries"},
		{[]string{termRecord(most, -1), termRecord(most, -1), termRecord(most, 0)}, "term 1099511627776 vote 0, base 0 0 [1 5] , nodes [1 5] 0, entries"},
		{[]string{entryRecord(1, empty(0))}, "term 0 vote -1, base 0 0 [1 5] , nodes [1 5] 0, entries 0/0//[]"},
		{[]string{entryRecord(1, data(most, "\x00\xff")), entryRecord(2, config(0, all7...)), entryRecord(3, empty(5))}, "term 0 vote -1, base 0 0 [1 5] , nodes [0 1 2 3 4 5 6] 2, entries 1099511627776/1/00ff/[] 0/2//[0 1 2 3 4 5 6] 5/0//[]"},
		{[]string{entryRecord(1, long), entryRecord(2, config(1, 6))}, "term 0 vote -1, base 0 0 [1 5] , nodes [6] 2, entries " + shown(long) + " 1/2//[6]"},
		{[]string{cutRecord(1)}, "term 0 vote -1, base 0 0 [1 5] , nodes [1 5] 0, entries"},
		{[]string{entryRecord(1, empty(1)), entryRecord(2, config(2, 4)), cutRecord(3)}, "term 0 vote -1, base 0 0 [1 5] , nodes [4] 2, entries 1/0//[] 2/2//[4]"},
		{[]string{entryRecord(1, empty(1)), entryRecord(2, config(2, 4)), cutRecord(2)}, "term 0 vote -1, base 0 0 [1 5] , nodes [1 5] 0, entries 1/0//[]"},
		{[]string{entryRecord(1, empty(1)), entryRecord(2, config(2, 4)), cutRecord(1), cutRecord(1), entryRecord(1, empty(3))}, "term 0 vote -1, base 0 0 [1 5] , nodes [1 5] 0, entries 3/0//[]"},
		{[]string{entryRecord(1, config(1, 1)), termRecord(4, 2), entryRecord(2, config(1, 1, 2)), termRecord(5, 2), cutRecord(2), entryRecord(2, data(5, "z"))}, "term 5 vote 2, base 0 0 [1 5] , nodes [1] 1, entries 1/2//[1] 5/1/7a/[]"},
	} {
		log := baseRecord(0, 0, 1, 5) + strings.Join(one.log, "")
		d := room(t, wide)
		lay(t, d, "p-log", log)
		was := files(d)
		d.Fuse(0) // nothing is to be written
		j := open(t, "log "+strconv.Itoa(i), d, "p", 2, 3)
		if got := stateOf(j); got != one.want {
			t.Errorf("log %d: %s, want %s", i, short(got), short(one.want))
		}
		d.Fuse(-1)
		sameFiles(t, "log "+strconv.Itoa(i), files(d), was)
		opensAll(t, "log "+strconv.Itoa(i), d, 2, 3)
		// the same behind a base, whose data are the snapshot's
		answers(t, "Append", j.Append(config(9, 3)), api.OK)
		last, _ := j.Last()
		answers(t, "Compact", j.Compact(last, []byte("snap")), api.OK)
		opensAll(t, "log "+strconv.Itoa(i)+", Compacted", d, 2, 3)
	}
}

// badSnapshots is what a file of a snapshot may not hold.
func badSnapshots() map[string]string {
	good := "\x05\x03\x02\x00\x01" + row("data")
	l := map[string]string{
		"no byte":                         "",
		"a byte behind":                   good + "\x00",
		"twice":                           good + good,
		"a byte ahead":                    "\x01" + good,
		"number 0":                        nums(0, 0) + group(0, 1) + row("data"),
		"number 0, a term":                nums(0, 3) + group(0, 1) + row("data"),
		"number 0, no data":               nums(0, 0) + group(0, 1) + row(""),
		"a number above":                  nums(most+1, 3) + group(0, 1) + row("data"),
		"the greatest number":             nums(1<<62, 3) + group(0, 1) + row("data"),
		"a term above":                    nums(5, most+1) + group(0, 1) + row("data"),
		"the greatest term":               nums(5, 1<<62) + group(0, 1) + row("data"),
		"a number of two forms":           "\x85\x00\x03\x02\x00\x01" + row("data"),
		"a term of two forms":             "\x05\x83\x00\x02\x00\x01" + row("data"),
		"nodes of two forms":              "\x05\x03\x82\x00\x00\x01" + row("data"),
		"more nodes than there are":       nums(5, 3, 1<<62),
		"far more nodes than there can":   nums(5, 3, 1<<40, 0, 1) + row("data"),
		"fewer nodes":                     nums(5, 3, 1, 0, 1) + row("data"),
		"more nodes":                      nums(5, 3, 3, 0, 1) + row("data"),
		"more bytes than there are":       nums(5, 3) + group(0, 1) + nums(5) + "data",
		"far more bytes than there are":   nums(5, 3) + group(0, 1) + nums(1<<62) + "data",
		"fewer bytes than there are":      nums(5, 3) + group(0, 1) + nums(3) + "data",
		"a number that does not end":      strings.Repeat("\xff", 20),
		"all zero":                        strings.Repeat("\x00", 20),
		"eight nodes":                     nums(5, 3) + group(0, 1, 2, 3, 4, 5, 6, 7) + row("data"),
		"eight nodes, one of them twice":  nums(5, 3) + group(0, 1, 2, 3, 4, 5, 6, 6) + row("data"),
		"a node that is no number of one": nums(5, 3, 1) + "\x81\x00" + row("data"),
	}
	for i, nodes := range noGroups() {
		if !slices.ContainsFunc(nodes, func(n int) bool { return n < 0 || n > 1<<62 }) {
			l["no group "+strconv.Itoa(i)] = nums(5, 3) + group(nodes...) + row("data")
		}
	}
	for n := range good {
		l["cut at "+strconv.Itoa(n)] = good[:n]
	}
	return l
}

func TestOpenOfNoSnapshot(t *testing.T) {
	logs := map[string]string{
		"no log":             "",
		"a log":              baseRecord(0, 0, 0) + entryRecord(1, empty(1)),
		"a log with a base":  baseRecord(5, 3, 0, 1) + termRecord(4, 1) + entryRecord(6, empty(4)),
		"a log below":        baseRecord(4, 3, 0, 1) + entryRecord(5, empty(3)) + entryRecord(6, empty(4)),
		"a log with a torn":  baseRecord(5, 3, 0, 1) + "torn",
		"a log that is none": "none",
	}
	for what, log := range logs {
		d := room(t, wide)
		if log != "" {
			lay(t, d, "p-log", log)
		}
		for which, held := range badSnapshots() {
			lay(t, d, "p-snap", framed(held))
			d.Fuse(0)
			refused(t, what+", a snapshot of "+which, d, "p", api.ErrForm, 0)
			d.Fuse(-1)
			refused(t, what+", a snapshot of "+which, d, "p", api.ErrForm, 0)
		}
		good := snapshotOf(5, 3, []int{0, 1}, "data")
		for n := range good {
			lay(t, d, "p-snap", good[:n])
			refused(t, what+", a record cut at "+strconv.Itoa(n), d, "p", api.ErrForm, 0)
			other := []byte(good)
			other[n] ^= 0x10
			lay(t, d, "p-snap", string(other))
			refused(t, what+", another byte at "+strconv.Itoa(n), d, "p", api.ErrForm, 0)
		}
		lay(t, d, "p-snap", good+"\x00")
		refused(t, what+", a byte behind the record", d, "p", api.ErrForm, 0)
		lay(t, d, "p-snap", good+good)
		refused(t, what+", two records", d, "p", api.ErrForm, 0)
		lay(t, d, "p-snap", "\x05\x03\x02\x00\x01"+row("data"))
		refused(t, what+", no record around", d, "p", api.ErrForm, 0)
		lay(t, d, "p-snap", good)
		if what == "a log that is none" {
			refused(t, what, d, "p", api.ErrForm, 0)
		} else {
			opensAll(t, what, d, 0)
		}
	}
}

func TestOpenOfGreatSnapshots(t *testing.T) {
	for _, one := range []struct {
		index, term int
		nodes       []int
		text        string
	}{
		{1, 0, []int{0}, ""}, {most, most, all7, "data"}, {most - 1, 0, []int{6}, "\x00"}, {1, most, []int{0, 6}, strings.Repeat("d", 1<<19)}, {127, 128, []int{3}, "x"}, {128, 127, []int{3}, "x"},
	} {
		d := room(t, wide)
		lay(t, d, "p-snap", snapshotOf(one.index, one.term, one.nodes, one.text))
		what := fmt.Sprintf("snapshot %d %d", one.index, one.term)
		opensAll(t, what, d, 1)
		j := open(t, what, d, "p", 1)
		if index, term := j.Base(); index != one.index || term != one.term {
			t.Errorf("%s: Base %d %d", what, index, term)
		}
		if text, nodes := j.Snapshot(); string(text) != one.text || !slices.Equal(nodes, one.nodes) {
			t.Errorf("%s: Snapshot %s %v", what, short(string(text)), nodes)
		}
		if term, vote := j.Term(); term != 0 || vote != -1 {
			t.Errorf("%s: Term %d %d", what, term, vote)
		}
		want := maps.Clone(files(d))
		want["p-log"] = file{baseRecord(one.index, one.term, one.nodes...) + termRecord(0, -1), ""}
		sameFiles(t, what, files(d), want)
	}
}

// badFirsts is what the first record of a log may not be.
func badFirsts() map[string]string {
	l := map[string]string{
		"no record":         "",
		"a byte":            "\x01",
		"no byte in it":     framed(""),
		"a term":            termRecord(1, 1),
		"an entry":          entryRecord(1, empty(1)),
		"a cut":             cutRecord(1),
		"a snapshot":        snapshotOf(5, 3, []int{0, 1}, "data"),
		"another Raw 0":     framed("\x00\x05\x03\x02\x00\x01"),
		"another Raw 5":     framed("\x05\x05\x03\x02\x00\x01"),
		"another Raw 129":   framed("\x81\x05\x03\x02\x00\x01"),
		"without a Raw":     framed("\x05\x03\x02\x00\x01"),
		"twice Raw 1":       framed("\x01\x01\x05\x03\x02\x00\x01"),
		"a byte behind":     framed("\x01\x05\x03\x02\x00\x01\x00"),
		"data behind":       framed("\x01\x05\x03\x02\x00\x01" + row("data")),
		"no data behind":    framed("\x01\x05\x03\x02\x00\x01" + row("")),
		"a number above":    baseRecord(most+1, 3, 0, 1),
		"a term above":      baseRecord(5, most+1, 0, 1),
		"the greatest":      baseRecord(1<<62, 3, 0, 1),
		"the greatest term": baseRecord(5, 1<<62, 0, 1),
		"far too many":      framed("\x01\x05\x03" + nums(1<<62) + "\x00\x01"),
		"more nodes":        framed("\x01\x05\x03\x03\x00\x01"),
		"fewer nodes":       framed("\x01\x05\x03\x01\x00\x01"),
		"two forms":         framed("\x01\x85\x00\x03\x02\x00\x01"),
		"something ahead":   "\x00" + baseRecord(5, 3, 0, 1),
	}
	for i, nodes := range noGroups() {
		if !slices.ContainsFunc(nodes, func(n int) bool { return n < 0 || n > 1<<62 }) {
			l["no group "+strconv.Itoa(i)] = baseRecord(5, 3, nodes...)
		}
	}
	good := baseRecord(5, 3, 0, 1)
	held := "\x01\x05\x03\x02\x00\x01"
	for n := range held {
		l["it holds the first "+strconv.Itoa(n)] = framed(held[:n])
	}
	for n := range good {
		l["cut at "+strconv.Itoa(n)] = good[:n]
		other := []byte(good)
		other[n] ^= 0x20
		l["another byte at "+strconv.Itoa(n)] = string(other)
	}
	return l
}

func TestOpenOfNoFirstRecord(t *testing.T) {
	for what, first := range badFirsts() {
		for _, behind := range []string{"", termRecord(1, 1), entryRecord(6, empty(1)) + "torn", baseRecord(5, 3, 0, 1)} {
			if strings.HasPrefix(what, "cut at") || what == "a byte" || what == "no record" {
				behind = "" // else it might not be cut any more
			}
			for _, snap := range []string{"", snapshotOf(5, 3, []int{0, 1}, "data"), snapshotOf(9, 3, []int{0, 1}, "data")} {
				d := room(t, wide)
				lay(t, d, "p-log", first+behind)
				if snap != "" {
					lay(t, d, "p-snap", snap)
				}
				refused(t, "the first record: "+what, d, "p", api.ErrForm, 0)
				d.Fuse(0)
				refused(t, "the first record, dead: "+what, d, "p", api.ErrForm, 0)
			}
		}
	}
}

// Of just 2^40 a base is taken, and nothing behind it.
func TestOpenOfGreatBases(t *testing.T) {
	for _, one := range [][2]int{{most, most}, {most, 0}, {1, most}} {
		d := room(t, wide)
		lay(t, d, "p-log", baseRecord(one[0], one[1], all7...))
		lay(t, d, "p-snap", snapshotOf(one[0], one[1], all7, ""))
		opensAll(t, fmt.Sprintf("base %v", one), d, 1)
	}
	d := room(t, wide)
	lay(t, d, "p-snap", snapshotOf(most, 1, all7, ""))
	lay(t, d, "p-log", baseRecord(most, 1, all7...)+entryRecord(most+1, empty(1)))
	refused(t, "an entry above", d, "p", api.ErrForm, 1)
	lay(t, d, "p-snap", snapshotOf(most-1, 1, all7, ""))
	lay(t, d, "p-log", baseRecord(most-1, 1, all7...)+entryRecord(most, empty(1)))
	opensAll(t, "an entry of 2^40", d, 1)
	lay(t, d, "p-log", baseRecord(most-1, 1, all7...)+entryRecord(most, empty(1))+entryRecord(most+1, empty(1)))
	refused(t, "two entries, one above", d, "p", api.ErrForm, 1)
	lay(t, d, "p-log", baseRecord(most-1, 1, all7...)+entryRecord(most, empty(1))+cutRecord(most+1))
	opensAll(t, "a cut behind the last one", d, 1)
}

// badRecords is what may not stand behind a base 5, 3, a term 4 with vote 2, and entries 6 and 7.
func badRecords() map[string]string {
	l := map[string]string{
		"no byte in it":               framed(""),
		"a base":                      baseRecord(5, 3, 0, 1),
		"a base like a Raw 3":         framed("\x01" + nums(8, 4, 0, 0, 0)),
		"Raw 0":                       framed("\x00" + nums(8, 4, 0, 0, 0)),
		"Raw 5":                       framed("\x05" + nums(7)),
		"Raw 6":                       framed("\x06" + nums(4, 3)),
		"Raw 255":                     framed("\xff" + nums(7)),
		"Raw as a number of two":      framed("\x84\x00\x07"),
		"a snapshot":                  snapshotOf(6, 3, []int{0, 1}, "data"),
		"term: alone":                 framed("\x02"),
		"term: no vote":               framed("\x02\x05"),
		"term: something behind":      framed("\x02\x05\x00\x00"),
		"term: below":                 termRecord(3, 2),
		"term: 0":                     termRecord(0, -1),
		"term: another vote":          termRecord(4, 3),
		"term: another vote, 0":       termRecord(4, 0),
		"term: no vote any more":      termRecord(4, -1),
		"term: above":                 termRecord(most+1, 2),
		"term: the greatest":          termRecord(1<<62, 2),
		"term: a vote above":          termRecord(5, 7),
		"term: a vote far above":      termRecord(5, 1<<62-1),
		"term: two forms":             framed("\x02\x85\x00\x00"),
		"cut: alone":                  framed("\x04"),
		"cut: something behind":       framed("\x04\x07\x00"),
		"cut: of 0":                   cutRecord(0),
		"cut: below the base":         cutRecord(4),
		"cut: of the base":            cutRecord(5),
		"cut: behind":                 cutRecord(9),
		"cut: far behind":             cutRecord(1 << 62),
		"cut: two forms":              framed("\x04\x87\x00"),
		"entry: alone":                framed("\x03"),
		"entry: something behind":     framed("\x03" + nums(8, 4, 0, 0, 0, 0)),
		"entry: number 0":             entryRecord(0, empty(4)),
		"entry: number of the base":   entryRecord(5, empty(4)),
		"entry: number of the last":   entryRecord(7, empty(4)),
		"entry: number of the first":  entryRecord(6, empty(4)),
		"entry: number behind":        entryRecord(9, empty(4)),
		"entry: number far behind":    entryRecord(1<<62, empty(4)),
		"entry: 2^32 behind":          entryRecord(8+1<<32, empty(4)),
		"entry: term above":           entryRecord(8, empty(most+1)),
		"entry: the greatest term":    entryRecord(8, data(1<<62, "x")),
		"entry: Kind 3":               entryRecord(8, api.Entry{Term: 4, Kind: 3}),
		"entry: Kind 4 with data":     entryRecord(8, api.Entry{Term: 4, Kind: 4, Data: []byte("x")}),
		"entry: Kind 3 with nodes":    entryRecord(8, api.Entry{Term: 4, Kind: 3, Nodes: []int{0}}),
		"entry: the greatest Kind":    entryRecord(8, api.Entry{Term: 4, Kind: 1 << 62}),
		"entry: Kind 256":             entryRecord(8, api.Entry{Term: 4, Kind: 256}),
		"entry: empty with data":      entryRecord(8, api.Entry{Term: 4, Data: []byte("x")}),
		"entry: empty with nodes":     entryRecord(8, api.Entry{Term: 4, Nodes: []int{0}}),
		"entry: data without any":     entryRecord(8, data(4, "")),
		"entry: data with nodes":      entryRecord(8, api.Entry{Term: 4, Kind: 1, Data: []byte("x"), Nodes: []int{0}}),
		"entry: too long":             entryRecord(8, data(4, strings.Repeat("x", 65537))),
		"entry: far too long":         entryRecord(8, data(4, strings.Repeat("x", 1<<19))),
		"entry: config without nodes": entryRecord(8, config(4)),
		"entry: config with data":     entryRecord(8, api.Entry{Term: 4, Kind: 2, Data: []byte("x"), Nodes: []int{0}}),
		"entry: eight nodes":          entryRecord(8, config(4, 0, 1, 2, 3, 4, 5, 6, 7)),
		"entry: far more nodes":       framed("\x03" + nums(8, 4, 2, 0, 1<<62, 0)),
		"entry: more nodes":           framed("\x03" + nums(8, 4, 2, 0, 2, 0)),
		"entry: more nodes than any":  framed("\x03" + nums(8, 4, 0, 0, 1)),
		"entry: eight nodes, not one": framed("\x03" + nums(8, 4, 0, 0, 8)),
		"entry: the most, not one":    framed("\x03" + nums(8, 4, 0, 0, 1<<62)),
		"entry: data, and the most":   framed("\x03" + nums(8, 4, 1) + row("x") + nums(1<<62)),
		"entry: more data":            framed("\x03" + nums(8, 4, 1, 3, 0)),
		"entry: far more data":        framed("\x03" + nums(8, 4, 1, 1<<62, 0)),
		"entry: two forms":            framed("\x03\x88\x00" + nums(4, 0, 0, 0)),
	}
	for i, nodes := range noGroups() {
		if !slices.ContainsFunc(nodes, func(n int) bool { return n < 0 || n > 1<<62 }) {
			l["entry: no group "+strconv.Itoa(i)] = entryRecord(8, config(4, nodes...))
		}
	}
	for what, held := range map[string]string{"term": "\x02\x05\x03", "entry": "\x03\x08\x04\x01" + row("some") + "\x00", "config": "\x03\x08\x04\x02\x00\x02\x01\x05", "cut": "\x04\x07"} {
		for n := range held {
			l[what+": it holds the first "+strconv.Itoa(n)] = framed(held[:n])
		}
	}
	return l
}

func TestOpenOfNoRecord(t *testing.T) {
	ahead := baseRecord(5, 3, 0, 1) + termRecord(4, 2) + entryRecord(6, config(3, 1)) + entryRecord(7, data(4, "seven"))
	goods := []string{"", termRecord(4, 2), termRecord(9, -1), entryRecord(8, empty(1)), entryRecord(8, config(2, 4)), cutRecord(6), cutRecord(7), cutRecord(8)}
	for _, good := range goods { // these are taken, alone and with something torn behind
		d := room(t, wide)
		lay(t, d, "p-snap", snapshotOf(5, 3, []int{0, 1}, "data"))
		lay(t, d, "p-log", ahead+good)
		opensAll(t, "good "+short(good), d, 3)
		lay(t, d, "p-log", ahead+good+"torn")
		opensAll(t, "good, torn "+short(good), d, 3)
	}
	for what, bad := range badRecords() {
		for _, behind := range append(goods, "torn", bad) {
			d := room(t, wide)
			lay(t, d, "p-snap", snapshotOf(5, 3, []int{0, 1}, "data"))
			lay(t, d, "p-log", ahead+bad+behind)
			refused(t, what, d, "p", api.ErrForm, 3)
			d.Fuse(0)
			refused(t, what+", dead", d, "p", api.ErrForm, 3)
			d.Fuse(-1)
			lay(t, d, "p-snap", snapshotOf(7, 4, []int{0, 1}, "data"))
			refused(t, what+", a snapshot above", d, "p", api.ErrForm, 3)
		}
	}
}

// A record that is not whole is cut off, with all that stands behind it.
func TestOpenCutsOff(t *testing.T) {
	records := []string{
		baseRecord(5, 3, 0, 1), termRecord(4, 2), entryRecord(6, config(3, 1)), entryRecord(7, data(4, "seven")), cutRecord(7),
		entryRecord(7, data(5, "other")), termRecord(5, -1), entryRecord(8, empty(5)), termRecord(5, 6),
	}
	good := ""
	for i, record := range records {
		for n := range record {
			rest := strings.Join(records[i+1:], "")
			other := []byte(record)
			other[n] ^= byte(1 << (n % 8))
			for which, torn := range []string{record[:n], string(other), string(other) + rest, record[:n] + "\x00" + rest} {
				what := fmt.Sprintf("record %d, byte %d, torn %d", i, n, which)
				d := room(t, wide)
				lay(t, d, "p-log", good+torn)
				lay(t, d, "p-snap", snapshotOf(5, 3, []int{0, 1}, "data"))
				if i == 0 {
					refused(t, what, d, "p", api.ErrForm, 0)
					continue
				}
				if n%3 == 0 {
					opensAll(t, what, d, 0)
				}
				j := open(t, what, d, "p", 0)
				sameFiles(t, what, files(d), map[string]file{"p-log": {good, ""}, "p-snap": {snapshotOf(5, 3, []int{0, 1}, "data"), ""}})
				answers(t, what, j.SetTerm(9, 1), api.OK) // what comes stands behind what is whole
				sameFiles(t, what, files(d), map[string]file{"p-log": {good + termRecord(9, 1), ""}, "p-snap": {snapshotOf(5, 3, []int{0, 1}, "data"), ""}})
			}
		}
		good += record
	}
}

// The steps of a cut: Truncate, and Sync.
func TestOpenCutsOffInSteps(t *testing.T) {
	for fuse := range 3 {
		d := room(t, wide)
		log := baseRecord(0, 0, 0, 1) + termRecord(4, 2)
		answers(t, "Append", d.Append("p-log", []byte(log+entryRecord(1, empty(1))), []byte("torn")), api.OK) // nothing lasts yet
		d.Fuse(fuse)
		j, e := journal.Open(d, "p", 3)
		log += entryRecord(1, empty(1))
		want := []file{{"", log + "torn"}, {"", log}, {log, ""}}[fuse]
		if (j != nil) != (fuse == 2) || (e != api.OK) != (fuse < 2) || e != api.OK && e != api.ErrDead {
			t.Errorf("Fuse(%d): a journal: %t, %v", fuse, j != nil, e)
		}
		sameFiles(t, fmt.Sprintf("Fuse(%d)", fuse), files(d), map[string]file{"p-log": want})
	}
}

func TestOpenWithASnapshotAbove(t *testing.T) {
	entries := []api.Entry{config(1, 2, 3), data(1, "a"), data(2, "b"), config(2, 4), empty(3)}
	for base := range 3 {
		log := baseRecord(base, base, 0, 1) + termRecord(6, 1)
		for i, one := range entries {
			log += entryRecord(base+1+i, one)
		}
		for index := 1; index <= base+8; index++ {
			for term := range 5 {
				for _, torn := range []string{"", "torn"} {
					d := room(t, wide)
					lay(t, d, "p-log", log+torn)
					lay(t, d, "p-snap", snapshotOf(index, term, []int{5, 6}, "data"))
					what := fmt.Sprintf("base %d, snapshot %d %d", base, index, term)
					if index < base {
						refused(t, what, d, "p", api.ErrForm, 0)
						continue
					}
					opensAll(t, what, d, 0)
					j := open(t, what, d, "p", 0)
					rest, stay := "", 0
					if i := index - base - 1; i >= 0 && i < len(entries) && entries[i].Term == term {
						for n := i + 1; n < len(entries); n++ {
							rest += entryRecord(base+1+n, entries[n])
							stay++
						}
					}
					want := baseRecord(index, term, 5, 6) + termRecord(6, 1) + rest
					if index == base {
						want, stay = log, len(entries)
					}
					if b, _ := d.Read("p-log"); string(b) != want {
						t.Errorf("%s: log %s, want %s", what, short(string(b)), short(want))
					}
					if last, _ := j.Last(); last != index+stay {
						t.Errorf("%s: Last %d, want %d", what, last, index+stay)
					}
					if text, _ := j.Snapshot(); string(text) != "data" {
						t.Errorf("%s: data %q", what, text)
					}
				}
			}
		}
	}
}

func TestOpenWithoutASnapshot(t *testing.T) {
	for _, base := range []int{0, 1, 2, 300, most} {
		for _, behind := range []string{"", termRecord(3, 1), "torn", termRecord(3, 1) + "torn"} {
			d := room(t, wide)
			lay(t, d, "p-log", baseRecord(base, 1, 0, 1)+behind)
			what := fmt.Sprintf("base %d, behind it %s", base, short(behind))
			if base == 0 {
				opensAll(t, what, d, 3)
				continue
			}
			refused(t, what, d, "p", api.ErrForm, 3)
			lay(t, d, "p-snap~", snapshotOf(base, 1, []int{0, 1}, "half"))
			if j, e := journal.Open(d, "p", 3); j != nil || e != api.ErrForm {
				t.Errorf("%s, half of one: a journal: %t, %v", what, j != nil, e)
			}
		}
	}
}

// All that a disk may have, told by a plain reader of the chapter's words.
func TestOpenOfAnything(t *testing.T) {
	var pool []string
	for term := range 3 {
		for vote := -1; vote < 2; vote++ {
			pool = append(pool, termRecord(term, vote))
		}
		for index := range 5 {
			pool = append(pool, entryRecord(index, empty(term)), entryRecord(index, config(term, index)))
		}
	}
	for index := range 6 {
		pool = append(pool, cutRecord(index))
	}
	good, taken := 0, 0
	for round := range 30000 {
		r := muddle(round)
		pick := func(n int) int {
			r = muddle(r)
			return r % n
		}
		d := room(t, wide)
		base := pick(2)
		log := baseRecord(base, pick(2), pick(2), 3)
		x := &plain{base: base, prefix: "p", vote: -1, d: d}
		for range pick(7) {
			record := pool[pick(len(pool))]
			if pick(4) > 0 { // most often one that may stand there
				for range 200 {
					if held, _, _ := unframed(record); x.readRecord(held) {
						break
					}
					record = pool[pick(len(pool))]
				}
			}
			log += record
		}
		switch pick(6) {
		case 0:
			log = log[:len(log)-1-pick(len(log))]
		case 1:
			b := []byte(log)
			b[pick(len(b))] ^= byte(1 << pick(8))
			log = string(b)
		}
		lay(t, d, "p-log", log)
		if pick(3) > 0 {
			lay(t, d, "p-snap", snapshotOf(pick(5), pick(3), []int{pick(3), 3}, "data"))
		}
		if opens(t, fmt.Sprintf("round %d", round), d, 6) == api.OK {
			taken++
		}
		good++
	}
	if taken < good/4 || taken > good*9/10 {
		t.Errorf("%d of %d are taken: too few or too many to tell", taken, good)
	}
}

// Bytes of any kind make nothing panic, and take no more memory than they have.
func TestOpenOfAnyBytes(t *testing.T) {
	for round := range 3000 {
		b := make([]byte, muddle(round)%60)
		for i := range b {
			b[i] = []byte{0, 1, 2, 3, 4, 127, 128, 255}[muddle(round*64+i)%8]
		}
		for which, l := range [][2]string{
			{string(b), ""}, {"", string(b)}, {framed(string(b)), ""}, {baseRecord(0, 0, 0) + framed(string(b)), ""},
			{baseRecord(0, 0, 0) + entryRecord(1, empty(1)) + framed("\x03"+string(b)), ""}, {baseRecord(0, 0, 0) + framed("\x02"+string(b)), ""},
			{"", framed(string(b))}, {framed("\x01" + string(b)), framed(string(b))},
		} {
			d := room(t, wide)
			for i, name := range []string{"p-log", "p-snap"} {
				if l[i] != "" {
					lay(t, d, name, l[i])
				}
			}
			opens(t, fmt.Sprintf("bytes %d, %d", round, which), d, 0)
		}
	}
}
