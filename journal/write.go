package journal

import (
	"slices"

	"haystack/api"
	"haystack/frame"
	"haystack/keep"
)

const (
	logFile  = "-log"  // stands behind the prefix of the log's file
	snapFile = "-snap" // and of the snapshot's
	onTheWay = "~"     // stands behind the name of a file that is not whole yet
)

// file is the name of a file by what stands behind its prefix.
func (j *Journal) file(behind string) string { return j.prefix + behind }

// load is what the disk has. What a crash left half done is done, or is gone.
func (j *Journal) load() api.Errno {
	if e := j.away(j.file(logFile+onTheWay), j.file(snapFile+onTheWay)); e != api.OK {
		return e
	}
	snap, e := j.loadSnap()
	if e != api.OK {
		return e
	}
	log, e := j.disk.Read(j.file(logFile))
	has := e == api.OK
	held, whole := frame.Scan(log)
	if has && !j.replay(held...) || snap.index < j.index {
		return api.ErrForm
	}
	if whole < len(log) {
		if e := j.cutOff(whole); e != api.OK {
			return e
		}
	}
	return j.join(snap, has)
}

// away removes those of some files that are there. The others are not even asked for: a dead disk errs of these, too.
func (j *Journal) away(names ...string) api.Errno {
	there := j.disk.List()
	missing := func(name string) bool { return !slices.Contains(there, name) }
	return j.disk.Remove(slices.DeleteFunc(names, missing)...)
}

// loadSnap is the snapshot that the disk has; without one, a base of number 0.
func (j *Journal) loadSnap() (base, api.Errno) {
	p, e := keep.Load(j.disk, j.file(snapFile))
	switch e {
	case api.OK:
		return takeSnapshot(p)
	case api.ErrNone:
		return base{}, api.OK
	}
	return base{}, e
}

// cutOff leaves the log its first bytes.
func (j *Journal) cutOff(n int) api.Errno {
	if e := j.disk.Truncate(j.file(logFile), n); e != api.OK {
		return e
	}
	return j.disk.Sync(j.file(logFile))
}

// join puts a snapshot to what the log said. One above the log's base was saved ahead of a log that was not written any more: it is written now, as it is if there is none.
func (j *Journal) join(snap base, has bool) api.Errno {
	if snap.index == j.index {
		j.data = snap.data
		if has {
			return api.OK
		}
		return j.anew(j.base)
	}
	rest := j.behind(snap)
	j.base, j.entries = snap, rest
	return j.anew(j.base, rest...)
}

// write lays records behind the log, all at once, and has them last.
func (j *Journal) write(rows ...[]byte) api.Errno {
	e := j.disk.Append(j.file(logFile), rows...)
	if e == api.OK {
		e = j.disk.Sync(j.file(logFile))
	}
	return j.ends(e)
}

// ends lets the journal die of an error: what the disk has of it is not known any more.
func (j *Journal) ends(e api.Errno) api.Errno {
	j.dead = e != api.OK
	return e
}

// anew writes the log of a base and of entries behind it. It gets its name once all of it lasts.
func (j *Journal) anew(b base, l ...api.Entry) api.Errno {
	part := j.file(logFile + onTheWay)
	if e := j.away(part); e != api.OK {
		return e
	}
	rows := slices.Concat([][]byte{b.record(), j.voted.record()}, records(b.index+1, l...))
	if e := j.disk.Append(part, rows...); e != api.OK {
		return e
	}
	if e := j.disk.Sync(part); e != api.OK {
		return e
	}
	return j.disk.Rename(part, j.file(logFile))
}

// settle makes a snapshot the base. It is saved first: with it alone, Open finds the way on.
func (j *Journal) settle(b base) api.Errno {
	rest := j.behind(b)
	if e := keep.Save(j.disk, j.file(snapFile), b.snapshot()); e != api.OK {
		return j.ends(e)
	}
	if e := j.anew(b, rest...); e != api.OK {
		return j.ends(e)
	}
	j.base, j.entries = b, rest
	return api.OK
}
