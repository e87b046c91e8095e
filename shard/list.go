package shard

import (
	"maps"
	"slices"

	"haystack/api"
	"haystack/octet"
	"haystack/op"
	"haystack/segment"
)

const (
	most  = 1 << 40 // the greatest number of a list
	first = 1       // the N of the first segment
)

// list is what is written down.
type list struct {
	applied  int             // the number of the last op
	next     int             // the N that comes next
	parts    []part          // newest first
	sessions map[int]session // by clients
}

// part is a segment, and the N of its file.
type part struct {
	*segment.Segment
	n int
}

// session is what a client did last, and what was said of it.
type session struct {
	op.Reply
	seq int
}

// encode is a list as bytes.
func (l list) encode() []byte {
	var w octet.Writer
	w.Nums(l.applied, l.next, len(l.parts))
	for _, p := range l.parts {
		w.Nums(p.n)
	}
	laySessions(&w, l.sessions)
	return w.Out()
}

// decode is the way back; the parts have their N alone.
func decode(b []byte) (list, api.Errno) {
	var l list
	r := octet.NewReader(b)
	r.Nums(&l.applied, &l.next)
	l.parts = takeParts(r, l.next)
	l.sessions = takeSessions(r)
	if !r.Whole() || l.applied > most || l.next < first || l.next > most {
		return list{}, api.ErrForm
	}
	return l, api.OK
}

// takeParts takes how many parts there are, and of each its N; these are unlike, and below the one that comes next.
func takeParts(r *octet.Reader, next int) []part {
	var parts []part
	taken := map[int]struct{}{}
	// The number may lie, here and below: what is left of the bytes is the bound.
	for count := r.Num(); len(parts) < count && r.Good(); {
		n := r.Num()
		taken[n] = struct{}{}
		parts = append(parts, part{n: n})
		if n < first || n >= next || len(taken) < len(parts) {
			r.Bad()
		}
	}
	return parts
}

// laySessions lays how many sessions there are, and each, by clients.
func laySessions(w *octet.Writer, sessions map[int]session) {
	w.Nums(len(sessions))
	for _, client := range slices.Sorted(maps.Keys(sessions)) {
		last := sessions[client]
		w.Nums(client, last.seq)
		w.Bytes(op.EncodeReply(last.Reply))
	}
}

// takeSessions takes what laySessions lays.
func takeSessions(r *octet.Reader) map[int]session {
	sessions := map[int]session{}
	ahead := -1
	for count := r.Num(); len(sessions) < count && r.Good(); {
		var client, seq int
		r.Nums(&client, &seq)
		said, e := op.DecodeReply(r.Bytes())
		if e != api.OK || client <= ahead || client > most || seq > most {
			r.Bad()
		}
		sessions[client] = session{said, seq}
		ahead = client
	}
	return sessions
}

// layAll is sessions and documents as bytes.
func layAll(sessions map[int]session, docs ...api.Doc) []byte {
	var w octet.Writer
	laySessions(&w, sessions)
	w.Nums(len(docs))
	for _, doc := range docs {
		w.Bytes([]byte(doc.Key), doc.Text)
	}
	return w.Out()
}

// takeAll is the way back.
func takeAll(b []byte) (map[int]session, []api.Doc, api.Errno) {
	r := octet.NewReader(b)
	sessions := takeSessions(r)
	docs := takeDocs(r)
	if !r.Whole() {
		return nil, nil, api.ErrForm
	}
	return sessions, docs, api.OK
}

// takeDocs takes how many documents there are, and each, by keys.
func takeDocs(r *octet.Reader) []api.Doc {
	var docs []api.Doc
	ahead := ""
	for count := r.Num(); len(docs) < count && r.Good(); {
		doc := api.Doc{Key: string(r.Bytes()), Text: r.Bytes()}
		if doc.Key <= ahead || len(doc.Key) > api.MaxKey || len(doc.Text) > api.MaxText {
			r.Bad()
		}
		docs = append(docs, doc)
		ahead = doc.Key
	}
	return docs
}
