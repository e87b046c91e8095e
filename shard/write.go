package shard

import (
	"slices"
	"sort"
	"strconv"

	"haystack/api"
	"haystack/keep"
	"haystack/mem"
	"haystack/segment"
)

const (
	listFile = "list"  // what stands behind the prefix of the list's file
	mostLaid = 1 << 62 // the greatest number that is laid
)

// file is the name of a file by what stands behind its prefix.
func (s *Shard) file(behind string) string { return s.prefix + "-" + behind }

// name is that of a part's file.
func (s *Shard) name(p part) string { return s.file(strconv.Itoa(p.n)) }

// names is the names of parts' files, rising.
func (s *Shard) names(parts ...part) []string {
	names := make([]string, len(parts))
	for i, p := range parts {
		names[i] = s.name(p)
	}
	slices.Sort(names)
	return names
}

// load is the list that the disk has, with its segments; without one, that of nothing.
func (s *Shard) load() (list, api.Errno) {
	b, e := keep.Load(s.disk, s.file(listFile))
	if e == api.ErrNone {
		return list{next: first, sessions: map[int]session{}}, api.OK
	}
	if e != api.OK {
		return list{}, e
	}
	l, e := decode(b)
	if e != api.OK {
		return list{}, e
	}
	for i, p := range l.parts {
		l.parts[i].Segment, e = s.loadPart(p)
		if e != api.OK {
			return list{}, e
		}
	}
	return l, api.OK
}

// loadPart is a part's segment. One that is not there is not ErrNone: the list has it.
func (s *Shard) loadPart(p part) (*segment.Segment, api.Errno) {
	b, e := keep.Load(s.disk, s.name(p))
	if e != api.OK {
		return nil, api.ErrForm
	}
	return segment.Decode(b)
}

// save writes a segment down under the N that comes next. That N is used by then, though it errs.
func (s *Shard) save(one *segment.Segment) (part, api.Errno) {
	p := part{one, s.next}
	s.next++
	if e := keep.Save(s.disk, s.name(p), one.Encode()); e != api.OK {
		return part{}, e
	}
	return p, api.OK
}

// settle writes a list down: the shard has what it says from then on, and nothing in its table. Then the files of elder parts, which it does not have, are taken away.
func (s *Shard) settle(l list, elder ...part) api.Errno {
	if e := keep.Save(s.disk, s.file(listFile), l.encode()); e != api.OK {
		return e
	}
	s.list, s.table = l, mem.New()
	s.sure = min(max(l.applied, 0), mostLaid) // a snapshot's number is any
	return s.disk.Remove(s.names(elder...)...)
}

// Flush writes what is not in a segment yet into one.
func (s *Shard) Flush() api.Errno {
	if s.none() {
		return api.ErrArg
	}
	parts, e := s.flushed()
	if e != api.OK {
		return e
	}
	parts, elder, e := s.merged(parts...)
	if e != api.OK {
		return e
	}
	return s.settle(list{s.applied, s.next, parts, s.sessions}, elder...)
}

// flushed is the parts, ahead of them one of what the table knows.
func (s *Shard) flushed() ([]part, api.Errno) {
	if s.table.Len() == 0 {
		return s.parts, api.OK
	}
	one, e := segment.New(s.table.Docs(), s.table.Gone()...)
	if e != api.OK {
		return nil, e
	}
	p, e := s.save(one)
	if e != api.OK {
		return nil, e
	}
	return slices.Concat([]part{p}, s.parts), api.OK
}

// merged is parts as one, and those that it stands for. They stay if they are not too many, or if there is no segment that long.
func (s *Shard) merged(parts ...part) (all, elder []part, e api.Errno) {
	if len(parts) <= api.MaxSegs {
		return parts, nil, api.OK
	}
	var segments []*segment.Segment
	for _, p := range parts {
		segments = append(segments, p.Segment)
	}
	one, e := segment.Merge(true, segments...)
	if e != api.OK {
		return parts, nil, api.OK
	}
	p, e := s.save(one)
	if e != api.OK {
		return nil, nil, e
	}
	return []part{p}, parts, api.OK
}

// Install makes it what a snapshot says.
func (s *Shard) Install(index int, p []byte) api.Errno {
	if s.none() {
		return api.ErrArg
	}
	sessions, docs, e := takeAll(p)
	if e != api.OK {
		return e
	}
	var parts []part
	for len(docs) > 0 {
		one, n := fill(docs...)
		p, e := s.save(one)
		if e != api.OK {
			return e
		}
		parts = append(parts, p)
		docs = docs[n:]
	}
	slices.Reverse(parts) // newest first
	return s.settle(list{index, s.next, parts, sessions}, s.parts...)
}

// fill is a segment of as many of the first documents as one takes, and how many these are.
func fill(docs ...api.Doc) (*segment.Segment, int) {
	n := within(docs...)
	one, e := segment.New(docs[:n])
	if e == api.OK {
		return one, n
	}
	refused := func(i int) bool {
		_, e := segment.New(docs[:i+1])
		return e != api.OK
	}
	n = sort.Search(n, refused)
	one, _ = segment.New(docs[:n])
	return one, n
}

// within is how many of the first documents have texts that an index takes: a segment takes no more, and most often all of these. Without this bound, many more would be tried than are taken.
func within(docs ...api.Doc) int {
	symbols := 1
	for i, doc := range docs {
		symbols += len(doc.Text) + 1
		if symbols > api.MaxAll {
			return i
		}
	}
	return len(docs)
}
