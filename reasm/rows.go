package reasm

import (
	"bytes"
	"iter"

	"ropewalk/api"
)

// turn is what all chunks of a message have in common.
type turn struct {
	stream, ssn uint16
	unordered   bool
}

// piece is a chunk that is held. Only the first piece of a row knows its end, only the last one its beginning: so two rows become one at once, however long they are.
type piece struct {
	turn
	begins, ends bool
	proto        uint32
	body         []byte
	row          row
}

func pieceOf(c api.Chunk) *piece {
	return &piece{
		turn:   turn{stream: c.Stream, ssn: c.SSN, unordered: c.Flags&api.FlagUnorder != 0},
		begins: c.Flags&api.FlagBegin != 0,
		ends:   c.Flags&api.FlagEnd != 0,
		proto:  c.Proto,
		body:   bytes.Clone(c.Body),
	}
}

// row is pieces that fit, each behind the one ahead, as many as there are: no beginning is behind its first, no end ahead of its last.
type row struct{ first, last uint32 }

func (r row) tsns() iter.Seq[uint32] {
	return func(yield func(uint32) bool) {
		for tsn := r.first; tsn != r.last+1 && yield(tsn); tsn++ {
		}
	}
}

// rows are the pieces that are held, by their TSNs.
type rows struct {
	pieces map[uint32]*piece
}

func noRows() rows { return rows{pieces: map[uint32]*piece{}} }

// fits tells whether a piece stands in one row with the one ahead of it.
func (r *rows) fits(tsn uint32) bool {
	p, ahead := r.pieces[tsn], r.pieces[tsn-1]
	return p != nil && ahead != nil && p.turn == ahead.turn && !p.begins && !ahead.ends
}

// join puts in a piece, and tells in which row it is now.
func (r *rows) join(tsn uint32, p *piece) row {
	r.pieces[tsn] = p
	joined := row{first: tsn, last: tsn}
	if r.fits(tsn) {
		joined.first = r.pieces[tsn-1].row.first
	}
	if r.fits(tsn + 1) {
		joined.last = r.pieces[tsn+1].row.last
	}
	r.mark(joined)
	return joined
}

// part takes a piece out of its row, which is two rows then, one, or none.
func (r *rows) part(parted row, tsn uint32) {
	delete(r.pieces, tsn)
	if parted.first != tsn {
		r.mark(row{first: parted.first, last: tsn - 1})
	}
	if parted.last != tsn {
		r.mark(row{first: tsn + 1, last: parted.last})
	}
}

// mark tells a row to those of its pieces that must know it.
func (r *rows) mark(its row) {
	r.pieces[its.first].row = its
	r.pieces[its.last].row = its
}

// rowOf finds the row of a piece by the nearer one of its two ends.
func (r *rows) rowOf(tsn uint32) row {
	low, high := tsn, tsn
	for r.fits(low) && r.fits(high+1) {
		low--
		high++
	}
	if !r.fits(low) {
		return r.pieces[low].row
	}
	return r.pieces[high].row
}

func (r *rows) whole(its row) bool {
	return r.pieces[its.first].begins && r.pieces[its.last].ends
}

// message is what a row that is whole makes.
func (r *rows) message(its row) api.Message {
	var bodies [][]byte
	for tsn := range its.tsns() {
		bodies = append(bodies, r.pieces[tsn].body)
	}
	first := r.pieces[its.first]
	m := api.Message{Stream: first.stream, SSN: first.ssn, Proto: first.proto, Unordered: first.unordered, Data: bytes.Join(bodies, nil)}
	if m.Unordered {
		m.SSN = 0
	}
	return m
}
