package streams

import (
	"bytes"
	"iter"

	"ropewalk/api"
)

// lane is a stream: what is left of its messages, in order. A rest is kept as the piece that it would be if all of it were taken at once.
type lane struct {
	rests []api.Part
	ssn   uint16 // the number of the next ordered message that is begun
}

func (l *lane) push(m api.Message) {
	l.rests = append(l.rests, api.Part{Message: m, Begin: true, End: true})
}

// take cuts a piece of at most n bytes, one at least, off the first rest, which must be there.
func (l *lane) take(n int) api.Part {
	rest := &l.rests[0]
	if rest.Begin {
		l.number(rest)
	}
	piece := *rest
	if n < len(rest.Data) {
		piece.Data, piece.End = rest.Data[:n], false
		rest.Data, rest.Begin = rest.Data[n:], false
	} else {
		l.drop()
	}
	piece.Data = bytes.Clone(piece.Data)
	return piece
}

// number gives a message its number only when it is begun, so that all of its pieces have it.
func (l *lane) number(rest *api.Part) {
	if !rest.Unordered {
		rest.SSN = l.ssn
		l.ssn++
	}
}

// drop leaves nothing of the first rest behind: neither its bytes, nor the room of a row that is empty.
func (l *lane) drop() {
	l.rests[0] = api.Part{}
	l.rests = l.rests[1:]
	if len(l.rests) == 0 {
		l.rests = nil
	}
}

func (q *Queue) unmade() bool { return q == nil || q.lanes == nil }

func (q *Queue) has(stream uint16) bool { return int(stream) < len(q.lanes) }

// next is the next stream, if one has a message.
func (q *Queue) next() (int, bool) {
	if q.unmade() {
		return 0, false
	}
	for stream := range q.round() {
		if len(q.lanes[stream].rests) > 0 {
			return stream, true
		}
	}
	return 0, false
}

// round is every stream once, in the order in which they have their turn: with a message that was begun, from its own on, else from the one behind it.
func (q *Queue) round() iter.Seq[int] {
	first := q.last + 1
	if q.begun {
		first = q.last
	}
	return func(yield func(int) bool) {
		for step := range q.lanes {
			if !yield((first + step) % len(q.lanes)) {
				return
			}
		}
	}
}
