package outbox

import (
	"slices"

	"ropewalk/api"
	"ropewalk/serial"
)

func isReport(kind api.ChunkKind) bool { return kind == api.KSack || kind == api.KNrSack }

// firmBlocks are those that tell for good: one kind alone has them.
func firmBlocks(c api.Chunk) []api.Gap {
	if c.Kind != api.KNrSack {
		return nil
	}
	return c.NR
}

func inOrder(blocks ...api.Gap) bool {
	for _, block := range blocks {
		if block.Start == 0 || block.End < block.Start {
			return false
		}
	}
	return true
}

// farthest is the greatest distance of which blocks tell.
func farthest(blocks ...api.Gap) uint32 {
	far := uint16(0)
	for _, block := range blocks {
		far = max(far, block.End)
	}
	return uint32(far)
}

// unsent: no chunk had this TSN yet.
func (b *Box) unsent(tsn uint32) bool { return serial.Diff(b.next, tsn) >= 0 }

// reading is a report while it is taken, and what it comes to. What it says of each kept chunk stands at the chunk's place.
type reading struct {
	api.Report
	box   *Box
	tells []bool // of the chunk
	firm  []bool // for good
	newly []bool // it was open till now
}

// read begins with a report that may be.
func (b *Box) read(tells, firm []bool) *reading {
	newly := make([]bool, len(b.row))
	for i, k := range b.each {
		newly[i] = tells[i] && k.open()
	}
	paths := make([]api.Acked, len(b.flying))
	return &reading{Report: api.Report{Paths: paths}, box: b, tells: tells, firm: firm, newly: newly}
}

// take is the steps of a report, each of which leans on the states that those ahead of it left.
func (r *reading) take(now int) {
	r.findMoved()
	r.countCame(now)
	r.markReneged()
	r.freeCame()
	r.countMissing()
}

// tells: does a report tell of each kept chunk, by its TSN, the up-th one, or by one of the blocks? However blocks overlap, only their ends are looked at.
func (b *Box) tells(up int, blocks ...api.Gap) []bool {
	turns := make([]int, len(b.row)+1) // what begins there, less what is over there
	turns[0]++
	turns[up]--
	for _, block := range blocks {
		turns[up+int(block.Start)-1]++
		turns[up+int(block.End)]--
	}
	list := make([]bool, len(b.row))
	deep := 0
	for i := range list {
		deep += turns[i]
		list[i] = deep > 0
	}
	return list
}

// findMoved looks at each path's first open chunk.
func (r *reading) findMoved() {
	had := make([]bool, len(r.Paths))
	for i, k := range r.box.each {
		if k.open() && !had[k.Path] {
			had[k.Path] = true
			r.Paths[k.Path].Moved = r.newly[i]
		}
	}
}

// countCame counts what is newly told of, and finds the round trips.
func (r *reading) countCame(now int) {
	for i := range r.Paths {
		r.Paths[i].Trip = -1
	}
	for i, k := range r.box.each {
		if !r.newly[i] {
			continue
		}
		path := &r.Paths[k.Path]
		path.Bytes += k.size()
		if k.Times == 1 { // else nobody knows which sending was answered
			path.Trip = max(now-k.Sent, 0)
		}
	}
}

// markReneged marks what came and was given up.
func (r *reading) markReneged() {
	for i, k := range r.box.each {
		if k.State == api.OutAcked && !r.tells[i] {
			r.Reneged += k.size()
			r.box.mark(k)
		}
	}
}

// freeCame turns what came into Acked or Freed.
func (r *reading) freeCame() {
	for i, k := range r.box.each {
		if r.newly[i] {
			r.box.turn(k, api.OutAcked)
		}
		if r.firm[i] && k.State == api.OutAcked {
			r.box.turn(k, api.OutFreed)
			r.Free += k.size()
		}
	}
}

// countMissing goes from the last chunk on, so that of each path the latest sending among those above is known.
func (r *reading) countMissing() {
	latest := slices.Repeat([]int{-1}, len(r.Paths))
	for i := len(r.box.row) - 1; i >= 0; i-- {
		k := &r.box.row[i]
		switch {
		case r.newly[i]:
			latest[k.Path] = max(latest[k.Path], k.Sent)
		case k.flies(k.Path) && latest[k.Path] >= k.Sent:
			r.miss(k)
		}
	}
}

// miss counts a report that passes a chunk over; it is marked so only once, else by its path's timer.
func (r *reading) miss(k *kept) {
	k.Missing++
	if k.Missing == api.Quick && !k.Quick {
		k.Quick = true
		r.Paths[k.Path].Lost += k.size()
		r.box.mark(k)
	}
}
