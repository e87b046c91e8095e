package journal

import (
	"bytes"
	"slices"

	"haystack/api"
	"haystack/frame"
	"haystack/octet"
)

// Kinds of records of a log.
const (
	kindBase  = 1 // the first one
	kindTerm  = 2
	kindEntry = 3
	kindCut   = 4
)

const mostData = 1 << 16 // bytes of an entry

// isGroup tells whether nodes are a group: some, rising.
func isGroup(nodes ...int) bool {
	low := 0
	for _, n := range nodes {
		if n < low || n >= api.MaxNodes {
			return false
		}
		low = n + 1
	}
	return len(nodes) > 0
}

// noEntry tells of an entry that it is none.
func noEntry(one api.Entry) bool {
	if one.Term < 0 || one.Term > most {
		return true
	}
	switch one.Kind {
	case api.EntryEmpty:
		return len(one.Data) > 0 || len(one.Nodes) > 0
	case api.EntryData:
		return len(one.Data) == 0 || len(one.Data) > mostData || len(one.Nodes) > 0
	case api.EntryConfig:
		return len(one.Data) > 0 || !isGroup(one.Nodes...)
	}
	return true
}

// copied is an entry that shares nothing with another one.
func copied(one api.Entry) api.Entry {
	one.Data, one.Nodes = bytes.Clone(one.Data), slices.Clone(one.Nodes)
	return one
}

// sealed is what a Writer has as a record. Nothing of a journal is too long for one.
func sealed(w *octet.Writer) []byte {
	b, _ := frame.Encode(w.Out())
	return b
}

// lay lays a base, but for its data.
func (b base) lay(w *octet.Writer) {
	w.Nums(b.index, b.under)
	layNodes(w, b.nodes...)
}

// takeBase takes what lay lays.
func takeBase(r *octet.Reader) base {
	var b base
	r.Nums(&b.index, &b.under)
	b.nodes = takeNodes(r)
	if b.index > most || b.under > most || !isGroup(b.nodes...) {
		r.Bad()
	}
	return b
}

// layNodes lays how many nodes there are, and each.
func layNodes(w *octet.Writer, nodes ...int) {
	w.Nums(len(nodes))
	w.Nums(nodes...)
}

// takeNodes takes what layNodes lays.
func takeNodes(r *octet.Reader) []int {
	count := r.Num()
	if count > api.MaxNodes {
		r.Bad()
		return nil
	}
	var nodes []int
	for range count {
		nodes = append(nodes, r.Num())
	}
	return nodes
}

// snapshot is a base as bytes.
func (b base) snapshot() []byte {
	var w octet.Writer
	b.lay(&w)
	w.Bytes(b.data)
	return w.Out()
}

// takeSnapshot is the way back. One of number 0 stands for nothing: none is written.
func takeSnapshot(p []byte) (base, api.Errno) {
	r := octet.NewReader(p)
	b := takeBase(r)
	b.data = r.Bytes()
	if !r.Whole() || b.index == 0 {
		return base{}, api.ErrForm
	}
	return b, api.OK
}

// record is a base as a log's first record.
func (b base) record() []byte {
	var w octet.Writer
	w.Raw(kindBase)
	b.lay(&w)
	return sealed(&w)
}

// record is a ballot as a record.
func (b ballot) record() []byte {
	var w octet.Writer
	w.Raw(kindTerm)
	w.Nums(b.term, b.vote-nobody)
	return sealed(&w)
}

// records is entries as records; index is the number of the first one.
func records(index int, l ...api.Entry) [][]byte {
	var rows [][]byte
	for i, one := range l {
		var w octet.Writer
		w.Raw(kindEntry)
		w.Nums(index+i, one.Term, one.Kind)
		w.Bytes(one.Data)
		layNodes(&w, one.Nodes...)
		rows = append(rows, sealed(&w))
	}
	return rows
}

// cutRecord is a cut as a record.
func cutRecord(from int) []byte {
	var w octet.Writer
	w.Raw(kindCut)
	w.Nums(from)
	return sealed(&w)
}

// replay makes a journal what a log's records say; false: one is none.
func (j *Journal) replay(held ...[]byte) bool {
	if len(held) == 0 || !j.begin(held[0]) {
		return false
	}
	for _, p := range held[1:] {
		if !j.redo(p) {
			return false
		}
	}
	return true
}

// opened is what stands behind a record's kind, and that kind; 0: it has none.
func opened(p []byte) (*octet.Reader, byte) {
	if len(p) == 0 {
		return octet.NewReader(nil), 0
	}
	return octet.NewReader(p[1:]), p[0]
}

// begin takes the first record.
func (j *Journal) begin(p []byte) bool {
	r, kind := opened(p)
	b := takeBase(r)
	if kind != kindBase || !r.Whole() {
		return false
	}
	j.base = b
	return true
}

// redo does what a record says that was done.
func (j *Journal) redo(p []byte) bool {
	r, kind := opened(p)
	switch kind {
	case kindTerm:
		return j.redoTerm(r)
	case kindEntry:
		return j.redoEntry(r)
	case kindCut:
		return j.redoCut(r)
	}
	return false
}

// redoTerm is SetTerm once more.
func (j *Journal) redoTerm(r *octet.Reader) bool {
	var b ballot
	r.Nums(&b.term, &b.vote)
	b.vote += nobody
	if !r.Whole() || !j.voted.goesTo(b) {
		return false
	}
	j.voted = b
	return true
}

// redoEntry is Append of an entry once more.
func (j *Journal) redoEntry(r *octet.Reader) bool {
	var index int
	var one api.Entry
	r.Nums(&index, &one.Term, &one.Kind)
	one.Data = r.Bytes()
	one.Nodes = takeNodes(r)
	if !r.Whole() || noEntry(one) || index != j.last()+1 || index > most {
		return false
	}
	j.entries = append(j.entries, one)
	return true
}

// redoCut is Cut once more.
func (j *Journal) redoCut(r *octet.Reader) bool {
	from := r.Num()
	if !r.Whole() || from <= j.index || from > j.last()+1 {
		return false
	}
	j.drop(from)
	return true
}
