package outbox

import (
	"bytes"

	"ropewalk/api"
)

// kept is a chunk that was sent and is not reported up to.
type kept struct {
	api.Out
}

func (k *kept) size() int { return len(k.Part.Data) }

// open: nothing has told of it since it was sent, or it was given up since.
func (k *kept) open() bool { return k.State == api.OutFlying || k.State == api.OutMarked }

func (k *kept) flies(path int) bool { return k.State == api.OutFlying && k.Path == path }

// told is the chunk as a caller has it: its data is not the box's.
func (k *kept) told() api.Out {
	out := k.Out
	out.Part.Data = bytes.Clone(out.Part.Data)
	return out
}

func isTime(now int) bool { return now >= 0 && now <= api.MaxTime }

func (b *Box) unmade() bool { return b == nil || b.flying == nil }

func (b *Box) has(path int) bool { return path >= 0 && path < len(b.flying) }

// each is every kept chunk with its place, to be changed on the spot.
func (b *Box) each(yield func(int, *kept) bool) {
	for i := range b.row {
		if !yield(i, &b.row[i]) {
			return
		}
	}
}

// firstMarked is the first chunk that is to be sent again, or nil.
func (b *Box) firstMarked() *kept {
	if b.marked > 0 { // else there is none: each chunk has a byte at least
		for _, k := range b.each {
			if k.State == api.OutMarked {
				return k
			}
		}
	}
	return nil
}

// send puts a chunk on its way, once more. It is new or marked: its bytes count on no path so far.
func (b *Box) send(k *kept, path, now int) {
	k.Path, k.Sent = path, now
	k.Times++
	k.Missing = 0
	b.turn(k, api.OutFlying)
}

// mark has a chunk sent again.
func (b *Box) mark(k *kept) {
	b.turn(k, api.OutMarked)
	k.Missing = 0
}

// turn is the one place where a state changes, so that what is counted stays what the states say.
func (b *Box) turn(k *kept, state api.OutState) {
	b.count(k, -k.size())
	k.State = state
	b.count(k, k.size())
}

func (b *Box) count(k *kept, n int) {
	switch k.State {
	case api.OutFlying:
		b.flying[k.Path] += n
	case api.OutMarked:
		b.marked += n
	}
}

// drop keeps the first n chunks no more: neither their data, nor the room of a row that is empty.
func (b *Box) drop(n int) {
	clear(b.row[:n])
	b.row = b.row[n:]
	if len(b.row) == 0 {
		b.row = nil
	}
}
