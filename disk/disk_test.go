package disk_test

import (
	"bytes"
	"fmt"
	"math"
	"slices"
	"strconv"
	"strings"
	"testing"

	"haystack/api"
	"haystack/disk"
)

const most = 1 << 30 // bytes for which a disk may have room

// disks is what a Disk has, and a plain one, too.
type disks interface {
	Append(name string, p ...[]byte) api.Errno
	Sync(names ...string) api.Errno
	Truncate(name string, n int) api.Errno
	Rename(old, name string) api.Errno
	Remove(names ...string) api.Errno
	Fuse(n int)
	Crash(draw int)
}

// cell is a byte of a file.
type cell struct {
	value byte
	lasts bool
}

// plain is a disk by the chapter's words, each byte by itself: what a Disk is held against.
type plain struct {
	room, fuse int // a fuse below 0 is none
	files      map[string][]cell
}

func newPlain(room int) *plain { return &plain{room, -1, map[string][]cell{}} }

// when is an error, where it applies.
func when(applies bool, e api.Errno) api.Errno {
	if applies {
		return e
	}
	return api.OK
}

// five does one of the five, unless an error applies.
func (p *plain) five(work func(), errs ...api.Errno) api.Errno {
	errs = append([]api.Errno{when(p.fuse == 0, api.ErrDead)}, errs...)
	for _, e := range errs {
		if e != api.OK {
			return e
		}
	}
	work()
	if p.fuse > 0 {
		p.fuse--
	}
	return api.OK
}

// noName is the error of a name that is none.
func noName(name string) api.Errno {
	return when(len([]byte(name)) < 1 || len([]byte(name)) > 64, api.ErrArg)
}

// noFile is the error of a file that is not there.
func (p *plain) noFile(name string) api.Errno {
	_, has := p.files[name]
	return when(!has, api.ErrNone)
}

func (p *plain) used() int {
	n := 0
	for _, file := range p.files {
		n += len(file)
	}
	return n
}

func (p *plain) Append(name string, rows ...[]byte) api.Errno {
	all := slices.Concat(rows...)
	tooMany := p.noFile(name) != api.OK && len(p.files) == api.MaxFiles
	return p.five(func() {
		file := p.files[name]
		for _, b := range all {
			file = append(file, cell{value: b})
		}
		p.files[name] = file
	}, noName(name), when(p.used()+len(all) > p.room || tooMany, api.ErrFull))
}

func (p *plain) Sync(names ...string) api.Errno {
	for _, name := range names {
		e := p.five(func() {
			for i := range p.files[name] {
				p.files[name][i].lasts = true
			}
		}, noName(name), p.noFile(name))
		if e != api.OK {
			return e
		}
	}
	return api.OK
}

func (p *plain) Truncate(name string, n int) api.Errno {
	return p.five(func() { p.files[name] = slices.Clone(p.files[name][:n]) },
		noName(name), p.noFile(name), when(n < 0 || n > len(p.files[name]), api.ErrArg))
}

func (p *plain) Rename(old, name string) api.Errno {
	return p.five(func() {
		file := p.files[old]
		delete(p.files, old)
		p.files[name] = file
	}, noName(old), noName(name), p.noFile(old))
}

func (p *plain) Remove(names ...string) api.Errno {
	for _, name := range names {
		if e := p.five(func() { delete(p.files, name) }, noName(name), p.noFile(name)); e != api.OK {
			return e
		}
	}
	return api.OK
}

func (p *plain) Fuse(n int) { p.fuse = n }

func (p *plain) Crash(draw int) {
	for name, file := range p.files {
		u := 0
		for _, c := range file {
			if !c.lasts {
				u++
			}
		}
		stay := len(file) - u + max(draw, 0)%(u+1)
		file = slices.Clone(file[:stay])
		for i := range file {
			file[i].lasts = true
		}
		p.files[name] = file
	}
	p.fuse = -1
}

// told is a file as text: its name, the bytes that last and, behind a bar, the others.
func told(name string, lasts, others []byte) string {
	return name + ":" + string(lasts) + "|" + string(others)
}

// state is all files of a plain disk, by their names.
func (p *plain) state() string {
	var l []string
	for name, file := range p.files {
		var parts [2][]byte
		for _, c := range file {
			part := 1
			if c.lasts {
				part = 0
			}
			parts[part] = append(parts[part], c.value)
		}
		l = append(l, told(name, parts[0], parts[1]))
	}
	slices.Sort(l)
	return strings.Join(l, " ")
}

// read is the bytes of a file that must be there.
func read(t *testing.T, d *disk.Disk, name string) []byte {
	t.Helper()
	b, e := d.Read(name)
	if e != api.OK {
		t.Errorf("Read of %q: %v", name, e)
	}
	return b
}

// state is all files of a disk; what lasts is told by a crash of a copy.
func state(t *testing.T, d *disk.Disk) string {
	t.Helper()
	c := d.Copy()
	c.Crash(0)
	var l []string
	n := 0
	for _, name := range d.List() {
		all, lasts := read(t, d, name), read(t, c, name)
		if !bytes.HasPrefix(all, lasts) {
			t.Fatalf("of %q %q lasts, of %q", name, lasts, all)
		}
		n += len(all)
		l = append(l, told(name, lasts, all[len(lasts):]))
	}
	if d.Used() != n {
		t.Errorf("%d bytes, Used %d", n, d.Used())
	}
	slices.Sort(l)
	return strings.Join(l, " ")
}

// made is a disk that there must be.
func made(t *testing.T, room int) *disk.Disk {
	t.Helper()
	d, e := disk.New(room)
	if e != api.OK || d == nil {
		t.Fatal(room, e)
	}
	return d
}

// ok tells of an error.
func ok(t *testing.T, e api.Errno) {
	t.Helper()
	if e != api.OK {
		t.Error(e)
	}
}

// laid is a disk with room for 100 bytes and these files, told as state tells them.
func laid(t *testing.T, files string) *disk.Disk {
	t.Helper()
	d := made(t, 100)
	for _, file := range strings.Fields(files) {
		name, all, _ := strings.Cut(file, ":")
		lasts, others, _ := strings.Cut(all, "|")
		ok(t, d.Append(name, []byte(lasts)))
		ok(t, d.Sync(name))
		ok(t, d.Append(name, []byte(others)))
	}
	return d
}

// is tells of a disk whose files are not these.
func is(t *testing.T, d *disk.Disk, want string) {
	t.Helper()
	if got := state(t, d); got != want {
		t.Errorf("%s, want %s", got, want)
	}
}

// call is something that is done to a disk.
type call struct {
	name string
	do   func(d disks) api.Errno
}

func rows(l []string) [][]byte {
	var p [][]byte
	for _, row := range l {
		p = append(p, []byte(row))
	}
	return p
}

func appends(name string, l ...string) call {
	return call{fmt.Sprintf("Append(%q, %q)", name, l), func(d disks) api.Errno { return d.Append(name, rows(l)...) }}
}

func syncs(names ...string) call {
	return call{fmt.Sprintf("Sync(%q)", names), func(d disks) api.Errno { return d.Sync(names...) }}
}

func truncates(name string, n int) call {
	return call{fmt.Sprintf("Truncate(%q, %d)", name, n), func(d disks) api.Errno { return d.Truncate(name, n) }}
}

func renames(old, name string) call {
	return call{fmt.Sprintf("Rename(%q, %q)", old, name), func(d disks) api.Errno { return d.Rename(old, name) }}
}

func removes(names ...string) call {
	return call{fmt.Sprintf("Remove(%q)", names), func(d disks) api.Errno { return d.Remove(names...) }}
}

func fuses(n int) call {
	return call{fmt.Sprintf("Fuse(%d)", n), func(d disks) api.Errno { d.Fuse(n); return api.OK }}
}

func crashes(draw int) call {
	return call{fmt.Sprintf("Crash(%d)", draw), func(d disks) api.Errno { d.Crash(draw); return api.OK }}
}

// after is a call, what it answers of files, and the files behind it.
type after struct {
	files string
	call  call
	e     api.Errno
	want  string
}

// tells does each call to its files.
func tells(t *testing.T, l []after) {
	t.Helper()
	for _, x := range l {
		t.Run(x.call.name, func(t *testing.T) {
			t.Helper()
			d := laid(t, x.files)
			if e := x.call.do(d); e != x.e {
				t.Errorf("of %s: %v, want %v", x.files, e, x.e)
			}
			is(t, d, x.want)
		})
	}
}

// badNames is texts that are no names: of no byte, of more than 64 bytes, though it be of fewer signs.
func badNames() []string {
	return []string{"", strings.Repeat("n", 65), strings.Repeat("\x00", 65), strings.Repeat("ä", 33), strings.Repeat("n", 1<<12)}
}

// goodNames is names of any bytes, up to 64 of them; they rise.
func goodNames() []string {
	return []string{"\x00", "\x00\x00", " ", ".", "..", "/", "10", "9", "A", "a", "a\x00", "a-1", "a/b", "aa", "a~", "b", strings.Repeat("n", 64), "~", "\x7f", "\x80", strings.Repeat("ä", 32), "\xff", strings.Repeat("\xff", 64)}
}

// withName is each of the five with a bad name, alone and among others.
func withName(bad string) []call {
	return []call{
		appends(bad, "1"), appends(bad), appends(bad, strings.Repeat("1", 101)),
		syncs(bad), syncs(bad, "a"), truncates(bad, 0), truncates(bad, -1), truncates(bad, 9),
		renames(bad, "a"), renames("a", bad), renames(bad, bad), renames("none", bad), renames(bad, "none"),
		removes(bad), removes(bad, "a"),
	}
}

// P10.1

func TestNew(t *testing.T) {
	for _, room := range []int{0, 1, 100, most - 1, most} {
		d := made(t, room)
		if d.Used() != 0 || len(d.List()) != 0 || state(t, d) != "" {
			t.Error(room, d.Used(), d.List())
		}
		if b, e := d.Read("a"); len(b) != 0 || e != api.ErrNone {
			t.Error(room, b, e)
		}
	}
	for _, room := range []int{-1, most + 1, math.MinInt, math.MaxInt} {
		if d, e := disk.New(room); d != nil || e != api.ErrArg {
			t.Error(room, e)
		}
	}
}

func TestNewHasNoFuse(t *testing.T) {
	d := made(t, 5000)
	for range 5000 {
		ok(t, d.Append("a", []byte{1}))
	}
	ok(t, d.Sync("a"))
}

func TestDeadAheadOfAllElse(t *testing.T) {
	l := []call{
		appends("a", "3"), appends("a"), appends("new"), appends("a", strings.Repeat("1", 101)),
		syncs("a"), syncs("none"), syncs("a", "b"), truncates("a", 0), truncates("none", 0), truncates("a", -1), truncates("a", 9),
		renames("a", "b"), renames("a", "a"), renames("none", "a"), renames("none", "none"),
		removes("a"), removes("none"), removes("a", "b"),
	}
	for _, bad := range badNames() {
		l = append(l, withName(bad)...)
	}
	const files = "a:1|2 b:3|4"
	for _, c := range l {
		d := laid(t, files)
		d.Fuse(0)
		if e := c.do(d); e != api.ErrDead {
			t.Errorf("%s: %v", c.name, e)
		}
		is(t, d, files)
	}
}

func TestNamesThatAreNone(t *testing.T) {
	var l []after
	for _, bad := range badNames() {
		for _, c := range withName(bad) {
			l = append(l, after{"a:1|2 b:3|4", c, api.ErrArg, "a:1|2 b:3|4"})
		}
	}
	tells(t, l)
}

func TestNamesAheadOfRoom(t *testing.T) {
	full := made(t, 0)
	for i := range api.MaxFiles {
		ok(t, full.Append(strconv.Itoa(i)))
	}
	for _, bad := range badNames() {
		if e := full.Append(bad); e != api.ErrArg {
			t.Errorf("%q: %v", bad, e)
		}
		if b, e := full.Read(bad); len(b) != 0 || e != api.ErrNone {
			t.Errorf("Read of %q: %v", bad, e)
		}
	}
}

func TestNamesOfAnyBytes(t *testing.T) {
	for _, name := range goodNames() {
		d := laid(t, "")
		other := "other"
		ok(t, d.Append(name, []byte("12")))
		ok(t, d.Sync(name))
		ok(t, d.Truncate(name, 1))
		is(t, d, name+":1|")
		ok(t, d.Rename(name, other))
		is(t, d, "other:1|")
		ok(t, d.Rename(other, name))
		is(t, d, name+":1|")
		ok(t, d.Remove(name))
		is(t, d, "")
	}
}

func TestOfNoName(t *testing.T) {
	const files = "a:1|2 b:3|4"
	tells(t, []after{
		{files, syncs(), api.OK, files},
		{files, removes(), api.OK, files},
		{"", syncs(), api.OK, ""},
		{"", removes(), api.OK, ""},
	})
	d := laid(t, files)
	d.Fuse(1)
	ok(t, d.Sync())
	ok(t, d.Remove())
	ok(t, d.Sync("a")) // those of no name did not count
	ok(t, d.Sync())
	ok(t, d.Remove())
	is(t, d, "a:12| b:3|4")
}

func TestOfSeveral(t *testing.T) {
	const files = "a:1|2 b:3|4 c:5|6"
	long := strings.Repeat("n", 65)
	tells(t, []after{
		{files, syncs("a"), api.OK, "a:12| b:3|4 c:5|6"},
		{files, syncs("c", "a"), api.OK, "a:12| b:3|4 c:56|"},
		{files, syncs("a", "b", "c"), api.OK, "a:12| b:34| c:56|"},
		{files, syncs("b", "b"), api.OK, "a:1|2 b:34| c:5|6"},
		{files, syncs("a", "none", "c"), api.ErrNone, "a:12| b:3|4 c:5|6"},
		{files, syncs("c", "b", "", "a"), api.ErrArg, "a:1|2 b:34| c:56|"},
		{files, syncs("a", long, "none"), api.ErrArg, "a:12| b:3|4 c:5|6"},
		{files, syncs("a", "none", ""), api.ErrNone, "a:12| b:3|4 c:5|6"},
		{files, syncs("none", "a"), api.ErrNone, files},
		{files, removes("b"), api.OK, "a:1|2 c:5|6"},
		{files, removes("c", "a"), api.OK, "b:3|4"},
		{files, removes("a", "b", "c"), api.OK, ""},
		{files, removes("a", "a", "b"), api.ErrNone, "b:3|4 c:5|6"},
		{files, removes("a", "none", "c"), api.ErrNone, "b:3|4 c:5|6"},
		{files, removes("c", "b", "", "a"), api.ErrArg, "a:1|2"},
		{files, removes("a", long, "none"), api.ErrArg, "b:3|4 c:5|6"},
		{files, removes("none", "a"), api.ErrNone, files},
	})
}

// P10.2

func TestAppend(t *testing.T) {
	tells(t, []after{
		{"", appends("a"), api.OK, "a:|"},
		{"", appends("a", ""), api.OK, "a:|"},
		{"", appends("a", "", "", ""), api.OK, "a:|"},
		{"", appends("a", "1"), api.OK, "a:|1"},
		{"", appends("a", "12", "", "3", "456"), api.OK, "a:|123456"},
		{"b:1|", appends("a", "2"), api.OK, "a:|2 b:1|"},
		{"a:1|2", appends("a"), api.OK, "a:1|2"},
		{"a:1|2", appends("a", "", ""), api.OK, "a:1|2"},
		{"a:1|2 b:3|4", appends("a", "56", "7"), api.OK, "a:1|2567 b:3|4"},
		{"a:12|", appends("a", "12", "12"), api.OK, "a:12|1212"},
	})
}

func TestAppendNil(t *testing.T) {
	d := laid(t, "a:1|2")
	ok(t, d.Append("a", nil, []byte("3"), nil))
	ok(t, d.Append("b", nil))
	is(t, d, "a:1|23 b:|")
}

func TestAppendAnyBytes(t *testing.T) {
	d := made(t, most)
	var all []byte
	for n := range 300 {
		row := bytes.Repeat([]byte{byte(n)}, n)
		ok(t, d.Append("a", row[:n/2], row[n/2:]))
		all = append(all, row...)
	}
	if got := read(t, d, "a"); !bytes.Equal(got, all) || d.Used() != len(all) {
		t.Error(len(got), d.Used(), len(all))
	}
}

func TestRoom(t *testing.T) {
	for _, x := range []struct {
		room int
		l    []int // rows
		e    api.Errno
	}{
		{0, nil, api.OK}, {0, []int{0, 0}, api.OK}, {0, []int{1}, api.ErrFull}, {0, []int{0, 1}, api.ErrFull},
		{1, []int{1}, api.OK}, {1, []int{2}, api.ErrFull}, {1, []int{1, 0}, api.OK}, {1, []int{1, 1}, api.ErrFull},
		{10, []int{10}, api.OK}, {10, []int{11}, api.ErrFull}, {10, []int{9, 1}, api.OK}, {10, []int{9, 2}, api.ErrFull},
		{10, []int{3, 3, 4}, api.OK}, {10, []int{3, 3, 4, 1}, api.ErrFull}, {10, []int{3, 3, 4, 0}, api.OK}, {10, []int{11, 0}, api.ErrFull},
		{1 << 16, []int{1 << 15, 1 << 15}, api.OK}, {1 << 16, []int{1 << 15, 1<<15 + 1}, api.ErrFull},
	} {
		d := made(t, x.room)
		var p [][]byte
		n := 0
		for _, long := range x.l {
			p = append(p, make([]byte, long))
			n += long
		}
		if e := d.Append("a", p...); e != x.e {
			t.Error(x.room, x.l, e)
		}
		if x.e == api.OK {
			if len(read(t, d, "a")) != n || d.Used() != n {
				t.Error(x.room, x.l, d.Used())
			}
		} else {
			is(t, d, "")
		}
	}
}

func TestRoomOfAllFiles(t *testing.T) {
	d := made(t, 10)
	for _, x := range []struct {
		call call
		e    api.Errno
		want string
	}{
		{appends("a", "1234"), api.OK, "a:|1234"},
		{appends("b", "123", "4567"), api.ErrFull, "a:|1234"},
		{appends("a", "123", "4567"), api.ErrFull, "a:|1234"},
		{appends("b", "567", "890"), api.OK, "a:|1234 b:|567890"},
		{appends("a", "1"), api.ErrFull, "a:|1234 b:|567890"},
		{appends("c", "1"), api.ErrFull, "a:|1234 b:|567890"},
		{appends("c"), api.OK, "a:|1234 b:|567890 c:|"},
		{truncates("b", 4), api.OK, "a:|1234 b:|5678 c:|"},
		{appends("c", "123"), api.ErrFull, "a:|1234 b:|5678 c:|"},
		{appends("c", "12"), api.OK, "a:|1234 b:|5678 c:|12"},
		{syncs("a"), api.OK, "a:1234| b:|5678 c:|12"},
		{crashes(1), api.OK, "a:1234| b:5| c:1|"},
		{appends("b", "67890"), api.ErrFull, "a:1234| b:5| c:1|"},
		{appends("b", "6789"), api.OK, "a:1234| b:5|6789 c:1|"},
		{renames("c", "a"), api.OK, "a:1| b:5|6789"},
		{appends("a", "23456"), api.ErrFull, "a:1| b:5|6789"},
		{appends("a", "2345"), api.OK, "a:1|2345 b:5|6789"},
		{renames("a", "a"), api.OK, "a:1|2345 b:5|6789"},
		{appends("a", "6"), api.ErrFull, "a:1|2345 b:5|6789"},
		{removes("b"), api.OK, "a:1|2345"},
		{appends("b", "123456"), api.ErrFull, "a:1|2345"},
		{appends("b", "12345"), api.OK, "a:1|2345 b:|12345"},
	} {
		if e := x.call.do(d); e != x.e {
			t.Fatalf("%s: %v, want %v", x.call.name, e, x.e)
		}
		is(t, d, x.want)
	}
}

func TestGreatestRoom(t *testing.T) {
	d := made(t, most)
	row := make([]byte, 1<<20)
	many := slices.Repeat([][]byte{row}, most>>20)
	if e := d.Append("a", append(many, []byte{1})...); e != api.ErrFull || d.Used() != 0 {
		t.Error(e, d.Used())
	}
	if e := d.Append("a", slices.Repeat(many, 8)...); e != api.ErrFull || d.Used() != 0 { // 2^33 bytes, of one row
		t.Error(e, d.Used())
	}
	ok(t, d.Append("a", many[:16]...))
	if e := d.Append("b", many[15:]...); e != api.ErrFull || d.Used() != 16<<20 || len(d.List()) != 1 {
		t.Error(e, d.Used(), d.List())
	}
}

func TestMaxFiles(t *testing.T) {
	d := made(t, 10)
	var want []string
	for i := range api.MaxFiles {
		name := strconv.Itoa(i)
		if e := d.Append(name); e != api.OK {
			t.Fatal(name, e)
		}
		want = append(want, name)
	}
	slices.Sort(want)
	all := func(used int) {
		t.Helper()
		if d.Used() != used || !slices.Equal(d.List(), want) {
			t.Fatal(d.Used(), len(d.List()))
		}
	}
	full := func(name string, p ...[]byte) {
		t.Helper()
		if e := d.Append(name, p...); e != api.ErrFull {
			t.Error(name, e)
		}
		all(d.Used())
	}
	full("one more")
	full("one more", []byte("1"))
	ok(t, d.Append("0", []byte("12")))
	ok(t, d.Append("1"))
	all(2)
	ok(t, d.Rename("5", "50000"))
	want = append(slices.DeleteFunc(want, func(name string) bool { return name == "5" }), "50000")
	slices.Sort(want)
	all(2)
	full("5")
	ok(t, d.Remove("50000"))
	ok(t, d.Append("5", []byte("3")))
	want[slices.Index(want, "50000")] = "5"
	slices.Sort(want)
	all(3)
	full("one more")
	d.Crash(0) // a file without a byte is one, too
	all(0)
	full("one more")
	if c := d.Copy(); c.Append("one more") != api.ErrFull || c.Append("5", []byte("3")) != api.OK {
		t.Error("a copy")
	}
	ok(t, d.Rename("7", "8"))
	ok(t, d.Append("7"))
	all(0)
	full("one more")
}

func TestSync(t *testing.T) {
	tells(t, []after{
		{"a:|", syncs("a"), api.OK, "a:|"},
		{"a:|12", syncs("a"), api.OK, "a:12|"},
		{"a:1|2 b:3|4", syncs("b"), api.OK, "a:1|2 b:34|"},
		{"a:12|", syncs("a"), api.OK, "a:12|"},
		{"a:1|2", syncs("b"), api.ErrNone, "a:1|2"},
		{"", syncs("a"), api.ErrNone, ""},
	})
	for _, draw := range []int{0, 1, 2, 3, 4, 5, math.MaxInt, -1} {
		d := laid(t, "a:1|234 b:|5")
		ok(t, d.Sync("a"))
		d.Crash(draw)
		if b := read(t, d, "a"); string(b) != "1234" {
			t.Errorf("Crash(%d): %q", draw, b)
		}
	}
}

func TestTruncate(t *testing.T) {
	tells(t, []after{
		{"a:12|34", truncates("a", 4), api.OK, "a:12|34"},
		{"a:12|34", truncates("a", 3), api.OK, "a:12|3"},
		{"a:12|34", truncates("a", 2), api.OK, "a:12|"},
		{"a:12|34", truncates("a", 1), api.OK, "a:1|"},
		{"a:12|34 b:5|6", truncates("a", 0), api.OK, "a:| b:5|6"},
		{"a:|12", truncates("a", 1), api.OK, "a:|1"},
		{"a:|", truncates("a", 0), api.OK, "a:|"},
		{"a:|", truncates("a", 1), api.ErrArg, "a:|"},
		{"a:12|34", truncates("a", 5), api.ErrArg, "a:12|34"},
		{"a:12|34", truncates("a", -1), api.ErrArg, "a:12|34"},
		{"a:12|34", truncates("a", math.MaxInt), api.ErrArg, "a:12|34"},
		{"a:12|34", truncates("a", math.MinInt), api.ErrArg, "a:12|34"},
		{"a:12|34", truncates("b", 0), api.ErrNone, "a:12|34"},
		{"a:12|34", truncates("b", -1), api.ErrNone, "a:12|34"},
		{"a:12|34", truncates("b", 1), api.ErrNone, "a:12|34"},
	})
}

func TestCutOffDoesNotComeBack(t *testing.T) {
	for draw := range 9 {
		d := laid(t, "a:1234|56")
		ok(t, d.Truncate("a", 2))
		if b := read(t, d, "a"); string(b) != "12" || d.Used() != 2 {
			t.Errorf("%q, %d", b, d.Used())
		}
		d.Crash(draw)
		is(t, d, "a:12|")
	}
}

func TestAppendedAnewDoesNotLast(t *testing.T) {
	d := laid(t, "a:1234|56")
	ok(t, d.Truncate("a", 2))
	ok(t, d.Append("a", []byte("abc")))
	is(t, d, "a:12|abc")
	c := d.Copy()
	c.Crash(1)
	is(t, c, "a:12a|")
	ok(t, d.Sync("a"))
	is(t, d, "a:12abc|")
	ok(t, d.Truncate("a", 0))
	ok(t, d.Append("a", []byte("x")))
	is(t, d, "a:|x")
	d.Crash(0)
	is(t, d, "a:|")
}

// P10.3

func TestRename(t *testing.T) {
	const files = "a:1|2 b:34|56 c:|"
	tells(t, []after{
		{files, renames("a", "d"), api.OK, "b:34|56 c:| d:1|2"},
		{files, renames("c", "d"), api.OK, "a:1|2 b:34|56 d:|"},
		{files, renames("a", "b"), api.OK, "b:1|2 c:|"},
		{files, renames("b", "a"), api.OK, "a:34|56 c:|"},
		{files, renames("c", "a"), api.OK, "a:| b:34|56"},
		{files, renames("a", "c"), api.OK, "b:34|56 c:1|2"},
		{files, renames("a", "a"), api.OK, files},
		{files, renames("c", "c"), api.OK, files},
		{files, renames("d", "a"), api.ErrNone, files},
		{files, renames("d", "e"), api.ErrNone, files},
		{files, renames("d", "d"), api.ErrNone, files},
		{"", renames("a", "b"), api.ErrNone, ""},
	})
}

func TestRemove(t *testing.T) {
	const files = "a:1|2 b:34|56 c:|"
	tells(t, []after{
		{files, removes("a"), api.OK, "b:34|56 c:|"},
		{files, removes("b"), api.OK, "a:1|2 c:|"},
		{files, removes("c"), api.OK, "a:1|2 b:34|56"},
		{files, removes("d"), api.ErrNone, files},
		{"", removes("a"), api.ErrNone, ""},
	})
}

func TestNamesLastAtOnce(t *testing.T) {
	for draw, want := range []string{"b:1| d:56|", "b:12| d:567|", "b:123| d:56|", "b:1| d:567|"} {
		d := laid(t, "a:1|23 b:4| c:56|7")
		ok(t, d.Rename("a", "b"))
		ok(t, d.Rename("c", "d"))
		is(t, d, "b:1|23 d:56|7")
		d.Crash(draw)
		is(t, d, want)
		ok(t, d.Remove("b"))
		d.Crash(draw)
		is(t, d, "d:"+string(read(t, d, "d"))+"|")
	}
}

func TestRemovedAndMadeAnew(t *testing.T) {
	d := laid(t, "a:12|34")
	ok(t, d.Remove("a"))
	ok(t, d.Append("a", []byte("5")))
	is(t, d, "a:|5")
	ok(t, d.Rename("a", "b"))
	ok(t, d.Append("a", []byte("6")))
	is(t, d, "a:|6 b:|5")
	ok(t, d.Append("b", []byte("7"))) // the file that has the name, no longer the other one
	ok(t, d.Append("a", []byte("8")))
	is(t, d, "a:|68 b:|57")
}

// P10.4

func TestFuse(t *testing.T) {
	l := []call{appends("a", "1"), syncs("a"), appends("a"), truncates("a", 0), renames("a", "b"), renames("b", "b"), removes("b")}
	want := []string{"", "a:|1", "a:1|", "a:1|", "a:|", "b:|", "b:|", ""}
	for n := range len(l) + 2 {
		d := laid(t, "")
		d.Fuse(n)
		for i, c := range l {
			if e := c.do(d); e != when(i >= n, api.ErrDead) {
				t.Errorf("Fuse(%d), %s: %v", n, c.name, e)
			}
			is(t, d, want[min(i+1, n)])
		}
	}
}

func TestNoFuse(t *testing.T) {
	for _, n := range []int{-1, -2, math.MinInt} {
		for _, ahead := range []int{0, 1, 3, -5} {
			d := laid(t, "")
			d.Fuse(ahead)
			d.Fuse(n)
			for range 20 {
				ok(t, d.Append("a", []byte("1")))
			}
		}
	}
}

func TestFuseAnew(t *testing.T) {
	for ahead := range 4 {
		for n := range 5 {
			for done := range 4 {
				d := laid(t, "")
				d.Fuse(ahead)
				for range done {
					d.Append("a")
				}
				d.Fuse(n)
				for i := range 7 {
					if e := d.Append("b"); e != when(i >= n, api.ErrDead) {
						t.Errorf("Fuse(%d), %d done, Fuse(%d): at %d %v", ahead, done, n, i, e)
					}
				}
			}
		}
	}
}

func TestGreatestFuse(t *testing.T) {
	d := laid(t, "")
	d.Fuse(math.MaxInt)
	for range 50 {
		ok(t, d.Append("a", []byte("1")))
	}
}

func TestFuseOfSeveral(t *testing.T) {
	const files = "a:1|2 b:3|4 c:5|6"
	for n, x := range []struct{ synced, removed string }{
		{files, files},
		{"a:12| b:3|4 c:5|6", "b:3|4 c:5|6"},
		{"a:12| b:34| c:5|6", "c:5|6"},
		{"a:12| b:34| c:56|", ""},
		{"a:12| b:34| c:56|", ""},
	} {
		d := laid(t, files)
		d.Fuse(n)
		if e := d.Sync("a", "b", "c"); e != when(n < 3, api.ErrDead) {
			t.Error(n, e)
		}
		is(t, d, x.synced)
		d = laid(t, files)
		d.Fuse(n)
		if e := d.Remove("a", "b", "c"); e != when(n < 3, api.ErrDead) {
			t.Error(n, e)
		}
		is(t, d, x.removed)
		if e := d.Append("a"); e != when(n < 4, api.ErrDead) {
			t.Error(n, e)
		}
	}
	d := laid(t, files)
	d.Fuse(2)
	ok(t, d.Sync("a", "a")) // twice the same one counts twice
	if e := d.Sync("a"); e != api.ErrDead {
		t.Error(e)
	}
}

func TestErrorsDoNotBurn(t *testing.T) {
	d := laid(t, "a:1|2")
	d.Fuse(2)
	for range 3 {
		for _, c := range []call{
			appends("", "1"), appends("a", strings.Repeat("1", 99)), syncs("none"), syncs(""), truncates("a", 9), truncates("a", -1), truncates("none", 0),
			renames("none", "a"), renames("a", ""), removes("none"), removes(""), syncs(), removes(),
		} {
			if e := c.do(d); e == api.ErrDead {
				t.Fatal(c.name)
			}
		}
	}
	ok(t, d.Append("a", []byte("3")))
	if e := d.Remove("none", "a"); e != api.ErrNone {
		t.Error(e)
	}
	ok(t, d.Sync("a"))
	is(t, d, "a:123|")
	if e := d.Sync("none"); e != api.ErrDead {
		t.Error(e)
	}
	d.Fuse(1)
	if e := d.Sync("a", "none", "a"); e != api.ErrDead { // the one that is done burns the fuse ahead of the one that errs
		t.Error(e)
	}
}

func TestAskedDoesNotBurn(t *testing.T) {
	d := laid(t, "a:1|2")
	d.Fuse(1)
	for range 5 {
		is(t, d, "a:1|2")
	}
	ok(t, d.Append("a", []byte("3")))
	is(t, d, "a:1|23") // asked with a burnt fuse, too
}

func TestExample(t *testing.T) {
	d := laid(t, "")
	ok(t, d.Append("a", []byte("12"), []byte("34")))
	ok(t, d.Sync("a"))
	ok(t, d.Append("a", []byte("56")))
	d.Crash(1)
	if b := read(t, d, "a"); string(b) != "12345" {
		t.Errorf("%q", b)
	}
}

func TestCrash(t *testing.T) {
	const files = "a:12|345 b:|67 c:89| d:|"
	for _, x := range []struct {
		draw int
		want string
	}{
		{0, "a:12| b:| c:89| d:|"},
		{1, "a:123| b:6| c:89| d:|"},
		{2, "a:1234| b:67| c:89| d:|"},
		{3, "a:12345| b:| c:89| d:|"},
		{4, "a:12| b:6| c:89| d:|"},
		{5, "a:123| b:67| c:89| d:|"},
		{11, "a:12345| b:67| c:89| d:|"},
		{12, "a:12| b:| c:89| d:|"},
		{13, "a:123| b:6| c:89| d:|"},
		{math.MaxInt, "a:12345| b:6| c:89| d:|"}, // 2^63 - 1 is 3 modulo 4, and 1 modulo 3
		{-1, "a:12| b:| c:89| d:|"},
		{-2, "a:12| b:| c:89| d:|"},
		{-3, "a:12| b:| c:89| d:|"},
		{math.MinInt, "a:12| b:| c:89| d:|"},
	} {
		d := laid(t, files)
		d.Crash(x.draw)
		is(t, d, x.want) // all that is there lasts: nothing stands behind a bar
		d.Crash(0)
		is(t, d, x.want)
	}
}

func TestCrashesOneBehindTheOther(t *testing.T) {
	d := laid(t, "a:|123456")
	d.Crash(4)
	is(t, d, "a:1234|")
	ok(t, d.Append("a", []byte("abc")))
	is(t, d, "a:1234|abc")
	d.Crash(2)
	is(t, d, "a:1234ab|")
	d.Crash(3)
	is(t, d, "a:1234ab|")
}

func TestNoFuseBehindACrash(t *testing.T) {
	for _, n := range []int{0, 1, 5, -1} {
		d := laid(t, "a:|1")
		d.Fuse(n)
		d.Crash(1)
		for range 9 {
			ok(t, d.Append("a", []byte("2")))
		}
		ok(t, d.Sync("a"))
		is(t, d, "a:1222222222|")
	}
}

// P10.5

func TestRead(t *testing.T) {
	d := laid(t, "a:1|2 b:|")
	for _, burnt := range []bool{false, true} {
		if burnt {
			d.Fuse(0)
		}
		if b, e := d.Read("a"); string(b) != "12" || e != api.OK {
			t.Error(b, e)
		}
		if b, e := d.Read("b"); len(b) != 0 || e != api.OK {
			t.Error(b, e)
		}
		for _, name := range append(badNames(), "c", "A", "a ", "ab", "a\x00") {
			if b, e := d.Read(name); len(b) != 0 || e != api.ErrNone {
				t.Errorf("%q: %v, %v", name, b, e)
			}
		}
	}
}

func TestList(t *testing.T) {
	want := goodNames()
	d := made(t, 100)
	for i := range want {
		ok(t, d.Append(want[i*5%len(want)]))
	}
	if l := d.List(); !slices.Equal(l, want) {
		t.Errorf("%q", l)
	}
	ok(t, d.Remove("a"))
	ok(t, d.Rename("\x00", "zz"))
	ok(t, d.Rename("zz", "a"))
	if l := d.List(); !slices.Equal(l, want[1:]) {
		t.Errorf("%q", l)
	}
}

func TestUsed(t *testing.T) {
	d := laid(t, "a:1|2 b:|345")
	for _, x := range []struct {
		call call
		want int
	}{
		{appends("c", "678", "9"), 9}, {syncs("a"), 9}, {truncates("c", 3), 8}, {truncates("c", 3), 8}, {renames("c", "d"), 8},
		{renames("a", "d"), 5}, {renames("d", "d"), 5}, {crashes(1), 3}, {removes("b"), 2}, {appends("d", "x"), 3}, {truncates("d", 0), 0}, {removes("d"), 0},
	} {
		ok(t, x.call.do(d))
		if n := d.Used(); n != x.want {
			t.Errorf("%s: %d, want %d", x.call.name, n, x.want)
		}
	}
}

func TestCopy(t *testing.T) {
	d := made(t, 6)
	ok(t, d.Append("a", []byte("1")))
	ok(t, d.Sync("a"))
	ok(t, d.Append("a", []byte("2")))
	ok(t, d.Append("b", []byte("34")))
	ok(t, d.Append("c"))
	for _, n := range []int{-1, 0, 1, 2} {
		d.Fuse(n)
		c := d.Copy()
		if !slices.Equal(c.List(), []string{"a", "b", "c"}) || c.Used() != 4 {
			t.Fatal(c.List(), c.Used())
		}
		if a, b := read(t, c, "a"), read(t, c, "b"); string(a) != "12" || string(b) != "34" || len(read(t, c, "c")) != 0 {
			t.Errorf("%q, %q", a, b)
		}
		if e := c.Append("c", []byte("567")); e != api.ErrFull { // the same room
			t.Error(e)
		}
		ok(t, c.Append("c", []byte("56"))) // no fuse
		ok(t, c.Sync("c", "c"))
		c.Crash(0)
		is(t, c, "a:1| b:| c:56|") // the same lasts
		if e := d.Append("c"); e != when(n == 0, api.ErrDead) {
			t.Error(n, e)
		}
		d.Fuse(-1)
		is(t, d, "a:1|2 b:|34 c:|")
	}
}

func TestCopyHasNoFuse(t *testing.T) {
	for n := range 3 {
		d := laid(t, "a:1|2")
		d.Fuse(n)
		c := d.Copy()
		for range 9 {
			ok(t, c.Append("a"))
		}
		for i := range 9 { // what was done to the copy did not burn the other one's
			if e := d.Append("a"); e != when(i >= n, api.ErrDead) {
				t.Error(n, i, e)
			}
		}
		d.Fuse(-1)
		c.Fuse(0)
		ok(t, d.Append("a"))
	}
}

func TestCopiesApart(t *testing.T) {
	const files = "a:12|34 b:5|6"
	for _, c := range []call{
		appends("a", "78"), appends("c", "9"), appends("c"), syncs("a"), syncs("a", "b"), truncates("a", 1), truncates("b", 0),
		renames("a", "b"), renames("a", "c"), removes("a"), removes("a", "b"), crashes(0), crashes(1), crashes(2),
	} {
		one := laid(t, files)
		other := one.Copy()
		ok(t, c.do(one))
		is(t, other, files)
		one = laid(t, files)
		other = one.Copy()
		ok(t, c.do(other))
		is(t, one, files)
	}
	one := laid(t, files)
	ok(t, one.Truncate("a", 1))
	other := one.Copy()
	ok(t, one.Append("a", []byte("xyz")))
	ok(t, other.Append("a", []byte("uvw")))
	is(t, one, "a:1|xyz b:5|6")
	is(t, other, "a:1|uvw b:5|6")
	another := one.Copy()
	ok(t, one.Truncate("a", 2)) // what is cut off behind a copy is still the copy's
	ok(t, one.Append("a", []byte("rs")))
	ok(t, other.Truncate("a", 0))
	ok(t, other.Append("a", []byte("pq")))
	is(t, one, "a:1|xrs b:5|6")
	is(t, other, "a:|pq b:5|6")
	is(t, another, "a:1|xyz b:5|6")
}

// P10.6

func TestWhatLastsIsNeverTurned(t *testing.T) {
	behind := []call{
		appends("a", "xyz"), appends("a"), appends("b", "xyz"), syncs("a"), truncates("a", 4), truncates("a", 5), truncates("a", 99),
		renames("b", "c"), removes("b"), renames("a", "a"), fuses(0), fuses(1), fuses(-1), crashes(0), crashes(1), crashes(5), crashes(-1),
	}
	for _, one := range behind {
		for _, two := range behind {
			for _, three := range behind {
				d := laid(t, "a:1234|56 b:7|8")
				for _, c := range []call{one, two, three} {
					c.do(d)
					if b := read(t, d, "a"); !bytes.HasPrefix(b, []byte("1234")) {
						t.Fatalf("%s, %s, %s: %q", one.name, two.name, three.name, b)
					}
				}
				d.Crash(0)
				if b := read(t, d, "a"); !bytes.HasPrefix(b, []byte("1234")) {
					t.Fatalf("%s, %s, %s: %q", one.name, two.name, three.name, b)
				}
			}
		}
	}
}

// roomy is a row with spare room behind its end.
func roomy(row string) []byte { return append(make([]byte, 0, len(row)+50), row...) }

// spare is a row and the spare room behind its end.
func spare(row []byte) string { return string(row[:cap(row)]) }

// spoil changes a row and the spare room behind its end.
func spoil(row []byte) {
	for i := range row[:cap(row)] {
		row[:cap(row)][i] ^= 0xff
	}
}

func TestRowsHandedIn(t *testing.T) {
	one, two := roomy("12"), roomy("34")
	l := append(make([][]byte, 0, 9), one, two)
	was := []string{spare(one), spare(two)}
	d := laid(t, "")
	unchanged := func() {
		t.Helper()
		if spare(one) != was[0] || spare(two) != was[1] || len(l) != 2 || &l[0][0] != &one[0] || &l[1][0] != &two[0] || l[:3][2] != nil {
			t.Fatal(one, two, l)
		}
	}
	for _, c := range []call{appends("a", "56"), syncs("a"), truncates("a", 1), appends("a", "789"), crashes(1), appends("b", "xyz"), truncates("b", 0), appends("b", "x")} {
		ok(t, d.Append("a", l...))
		ok(t, d.Append("b", l[0]))
		unchanged()
		ok(t, c.do(d))
		unchanged()
		ok(t, d.Remove("a", "b"))
	}
	ok(t, d.Append("a", l...))
	ok(t, d.Sync("a"))
	ok(t, d.Append("b", one))
	ok(t, d.Append("b"))
	spoil(one)
	spoil(two)
	is(t, d, "a:1234| b:|12")
	full := made(t, 3)
	one, two = roomy("12"), roomy("34")
	l = append(l[:0], one, two)
	was = []string{spare(one), spare(two)}
	if e := full.Append("a", l...); e != api.ErrFull {
		t.Error(e)
	}
	unchanged()
}

func TestNamesHandedIn(t *testing.T) {
	want := []string{"b", "a", "none", "c"}
	names := append(make([]string, 0, 9), want...)
	d := laid(t, "a:1|2 b:3|4 c:5|6")
	if e := d.Sync(names...); e != api.ErrNone {
		t.Error(e)
	}
	if e := d.Remove(names...); e != api.ErrNone {
		t.Error(e)
	}
	if !slices.Equal(names, want) || names[:5][4] != "" {
		t.Errorf("%q", names[:5])
	}
	clear(names)
	is(t, d, "c:5|6")
}

func TestReadIsNew(t *testing.T) {
	d := laid(t, "a:12|34 b:|")
	one, two := read(t, d, "a"), read(t, d, "a")
	spoil(one)
	if string(two) != "1234" {
		t.Errorf("%q", two)
	}
	is(t, d, "a:12|34 b:|")
	c := d.Copy()
	spoil(read(t, d, "a"))
	spoil(read(t, d, "b"))
	is(t, c, "a:12|34 b:|")
	spoil(read(t, c, "a"))
	is(t, d, "a:12|34 b:|")
	for _, k := range []call{appends("a", "5"), syncs("a"), truncates("a", 0), appends("a", "6789"), truncates("a", 1), crashes(0), appends("a", "xyz"), renames("b", "a"), appends("a", "uvw"), removes("a")} {
		ok(t, k.do(d))
		if string(two) != "1234" { // what was answered stays
			t.Fatalf("%s: %q", k.name, two)
		}
	}
}

func TestReadSpareIsNew(t *testing.T) {
	for n := range 70 {
		d := laid(t, "")
		ok(t, d.Append("a", bytes.Repeat([]byte("x"), n), []byte("y")))
		ok(t, d.Truncate("a", n))
		one := read(t, d, "a")
		ok(t, d.Append("a", []byte("123")))
		_ = append(one, "abc"...)
		if b := read(t, d, "a"); !strings.HasSuffix(string(b), "123") || len(b) != n+3 {
			t.Fatalf("%q", b)
		}
	}
}

func TestListIsNew(t *testing.T) {
	d := laid(t, "a:1| b:2| c:3|")
	one, two := d.List(), d.List()
	one = one[:cap(one)]
	for i := range one {
		one[i] = "x"
	}
	if !slices.Equal(two, []string{"a", "b", "c"}) || !slices.Equal(d.List(), two) {
		t.Errorf("%q, %q", two, d.List())
	}
	ok(t, d.Remove("b"))
	ok(t, d.Append("0"))
	if !slices.Equal(two, []string{"a", "b", "c"}) {
		t.Errorf("%q", two)
	}
}

func TestNilDisk(t *testing.T) {
	var d *disk.Disk
	l := []call{
		appends("a"), appends("a", "1"), appends(""), syncs(), syncs("a"), syncs("a", "b"), syncs(""), truncates("a", 0), truncates("", -1),
		renames("a", "b"), renames("", ""), removes(), removes("a"), removes("a", "b"), removes(""),
	}
	for _, c := range l {
		if e := c.do(d); e != api.ErrArg {
			t.Errorf("%s: %v", c.name, e)
		}
	}
	for _, name := range append(badNames(), "a") {
		if b, e := d.Read(name); len(b) != 0 || e != api.ErrNone {
			t.Errorf("%q: %v, %v", name, b, e)
		}
	}
	for _, n := range []int{-1, 0, 1, math.MaxInt, math.MinInt} {
		d.Fuse(n)
		d.Crash(n)
	}
	if len(d.List()) != 0 || d.Used() != 0 || d.Copy() != nil {
		t.Error(d.List(), d.Used(), d.Copy())
	}
}

// A Disk that New did not make has no room, no file and no fuse.
func TestZeroDisk(t *testing.T) {
	d := new(disk.Disk)
	d.Crash(1)
	is(t, d, "")
	ok(t, d.Copy().Append("a"))
	if e := d.Append("a", []byte("1")); e != api.ErrFull {
		t.Error(e)
	}
	for _, c := range []call{syncs("a"), truncates("a", 0), renames("a", "b"), removes("a")} {
		if e := c.do(d); e != api.ErrNone {
			t.Errorf("%s: %v", c.name, e)
		}
	}
	is(t, d, "")
	ok(t, d.Append("a"))
	ok(t, d.Rename("a", "b"))
	is(t, d, "b:|")
}

// All of it, against a plain disk

// both does calls to a Disk and to a plain one, and tells where they part.
func both(t *testing.T, room int, l []call) {
	t.Helper()
	d, p := made(t, room), newPlain(room)
	var done []string
	for _, c := range l {
		done = append(done, c.name)
		if got, want := c.do(d), c.do(p); got != want {
			t.Fatalf("%s: %v, want %v", strings.Join(done, ", "), got, want)
		}
	}
	if got, want := state(t, d), p.state(); got != want || d.Used() != p.used() {
		t.Fatalf("%s: %s, want %s", strings.Join(done, ", "), got, want)
	}
}

func TestAllShortScripts(t *testing.T) {
	words := []call{
		appends("a", "12"), appends("b", "3"), appends("a"), syncs("a"), syncs("b", "a"), truncates("a", 1), truncates("b", 0),
		renames("a", "b"), renames("b", "a"), renames("a", "a"), removes("a"), removes("b", "a"), crashes(0), crashes(1), crashes(5),
		fuses(1), fuses(2),
	}
	var script func(l []call, n int)
	script = func(l []call, n int) {
		if n == 0 {
			both(t, 4, l)
			return
		}
		for _, c := range words {
			script(append(l, c), n-1)
		}
	}
	for n := range 5 {
		script(nil, n)
	}
}

// draws is numbers that look like none near them, always the same.
type draws uint64

func (d *draws) below(n int) int {
	*d = *d*6364136223846793005 + 1442695040888963407
	return int(uint64(*d) >> 33 % uint64(n))
}

// call is some call.
func (d *draws) call() call {
	names := []string{"a", "b", "c", "d", "aa", "a~", strings.Repeat("n", 64), strings.Repeat("n", 65), ""}
	name := func() string { return names[min(d.below(len(names)), d.below(len(names)+3))] }
	several := func() []string {
		var l []string
		for range d.below(4) {
			l = append(l, name())
		}
		return l
	}
	switch d.below(12) {
	case 0, 1, 2, 3:
		var l []string
		for range d.below(4) {
			l = append(l, "0123456789abcdef"[d.below(9):][:d.below(8)])
		}
		return appends(name(), l...)
	case 4, 5:
		return syncs(several()...)
	case 6, 7:
		return truncates(name(), d.below(12)-1)
	case 8:
		return renames(name(), name())
	case 9:
		return removes(several()...)
	case 10:
		return crashes(d.below(40) - 2)
	}
	return fuses(d.below(14) - 6)
}

func TestAnyScripts(t *testing.T) {
	d := draws(7)
	for range 4000 {
		var l []call
		for range 1 + d.below(40) {
			l = append(l, d.call())
		}
		both(t, d.below(60), l)
	}
}

func TestAskedAgain(t *testing.T) {
	d := draws(11)
	for range 300 {
		x, y := made(t, 50), made(t, 50)
		for range 30 {
			c := d.call()
			one, other := c.do(x), c.do(y)
			if one != other || state(t, x) != state(t, y) || state(t, x) != state(t, x) {
				t.Fatalf("%s: %v, %v", c.name, one, other)
			}
		}
	}
}
