package frag

import (
	"bytes"
	"math/rand"
	"slices"
	"testing"

	"ropewalk/api"
)

// The chapter's words once more, by other means: what the package is held against.

const maxMessage = 65536

func modelRefusal(size, n int) api.Errno {
	if n <= 0 {
		return 1
	}
	if n > maxMessage {
		return 1
	}
	if size <= 0 {
		return 1
	}
	if size > maxMessage {
		return 2
	}
	return 0
}

// modelCut goes byte by byte: each one whose place is a multiple of n begins a piece.
func modelCut(data []byte, n int) ([]api.Piece, api.Errno) {
	if e := modelRefusal(len(data), n); e != 0 {
		return nil, e
	}
	var list []api.Piece
	for at, b := range data {
		if at%n == 0 {
			list = append(list, api.Piece{})
		}
		list[len(list)-1].Data = append(list[len(list)-1].Data, b)
	}
	list[0].Begin = true
	list[len(list)-1].End = true
	return list, 0
}

func modelCount(size, n int) (int, api.Errno) {
	if e := modelRefusal(size, n); e != 0 {
		return 0, e
	}
	count, covered := 0, 0
	for covered < size {
		covered += n
		count++
	}
	return count, 0
}

// all is the data of pieces, one behind the other.
func all(l []api.Piece) []byte {
	var parts [][]byte
	for _, p := range l {
		parts = append(parts, p.Data)
	}
	return bytes.Join(parts, nil)
}

// modelJoin asks each rule of all pieces, and then which fault is the first.
func modelJoin(l []api.Piece) ([]byte, int, api.Errno) {
	var faults []int
	for i := range l {
		if len(l[i].Data) == 0 {
			faults = append(faults, i)
		}
	}
	if len(l) > 0 && !l[0].Begin {
		faults = append(faults, 0)
	}
	for i := 1; i < len(l); i++ {
		if l[i].Begin {
			faults = append(faults, i)
		}
		if l[i-1].End {
			faults = append(faults, i-1)
		}
	}
	if len(l) == 0 || !l[len(l)-1].End {
		faults = append(faults, len(l))
	}
	if len(faults) > 0 {
		return nil, slices.Min(faults), 150
	}
	if b := all(l); len(b) <= maxMessage {
		return b, 0, 0
	}
	return nil, 0, 2
}

// modelRuns looks back from each piece: to the End ahead of it, and to how many bytes stand behind that one.
func modelRuns(l []api.Piece) ([][]byte, int, int, api.Errno) {
	var list [][]byte
	ended := 0       // pieces up to the last End
	upTo := []int{0} // bytes of so many pieces
	for i, p := range l {
		upTo = append(upTo, upTo[i]+len(p.Data))
		within := i > 0 && !l[i-1].End
		if len(p.Data) == 0 || within == p.Begin {
			return nil, 0, i, 150
		}
		if upTo[i+1]-upTo[ended] > maxMessage {
			return nil, 0, i, 2
		}
		if p.End {
			list = append(list, all(l[ended:i+1]))
			ended = i + 1
		}
	}
	return list, len(l[ended:]), 0, 0
}

func sameMessages(a, b [][]byte) bool { return slices.EqualFunc(a, b, bytes.Equal) }

func samePieces(a, b []api.Piece) bool {
	return slices.EqualFunc(a, b, func(p, q api.Piece) bool {
		return p.Begin == q.Begin && p.End == q.End && bytes.Equal(p.Data, q.Data)
	})
}

// reached is a copy of all that a list reaches, what lies behind its length and its pieces' among it.
func reached(l []api.Piece) []api.Piece {
	list := slices.Clone(l[:cap(l)])
	for i, p := range list {
		list[i].Data = bytes.Clone(p.Data[:cap(p.Data)])
	}
	return list
}

// lengths are those of pieces: few enough to be told with a fault.
func lengths(l []api.Piece) []int {
	var list []int
	for _, p := range l[:min(len(l), 20)] {
		list = append(list, len(p.Data))
	}
	return list
}

// Each of these makes a call with a slice handed in whole, twice, holds it against the model and against itself (nothing is kept, nothing that is handed in is changed), and answers what it told.

func cut(t *testing.T, data []byte, n int) ([]api.Piece, api.Errno) {
	t.Helper()
	was := bytes.Clone(data[:cap(data)])
	want, wantE := modelCut(data, n)
	for range 2 {
		if l, e := Cut(data, n); !samePieces(l, want) || e != wantE {
			t.Fatalf("Cut of %d bytes by %d = %d pieces of %v, %d, want %d of %v, %d", len(data), n, len(l), lengths(l), e, len(want), lengths(want), wantE)
		}
		if !bytes.Equal(was, data[:cap(data)]) {
			t.Fatalf("Cut of %d bytes by %d has changed them", len(data), n)
		}
	}
	return Cut(data, n)
}

func count(t *testing.T, size, n int) (int, api.Errno) {
	t.Helper()
	want, wantE := modelCount(size, n)
	for range 2 {
		if c, e := Count(size, n); c != want || e != wantE {
			t.Fatalf("Count(%d, %d) = %d, %d, want %d, %d", size, n, c, e, want, wantE)
		}
	}
	return Count(size, n)
}

func join(t *testing.T, l []api.Piece) ([]byte, int, api.Errno) {
	t.Helper()
	was := reached(l)
	want, wantAt, wantE := modelJoin(l)
	for range 2 {
		if b, at, e := Join(l...); !bytes.Equal(b, want) || at != wantAt || e != wantE {
			t.Fatalf("Join of %d pieces of %v = %d bytes, %d, %d, want %d, %d, %d", len(l), lengths(l), len(b), at, e, len(want), wantAt, wantE)
		}
		if !samePieces(was, reached(l)) {
			t.Fatalf("Join of %d pieces of %v has changed them", len(l), lengths(l))
		}
	}
	return Join(l...)
}

func runs(t *testing.T, l []api.Piece) ([][]byte, int, int, api.Errno) {
	t.Helper()
	was := reached(l)
	want, wantLeft, wantAt, wantE := modelRuns(l)
	for range 2 {
		if m, left, at, e := Runs(l...); !sameMessages(m, want) || left != wantLeft || at != wantAt || e != wantE {
			t.Fatalf("Runs of %d pieces of %v = %d messages, %d, %d, %d, want %d, %d, %d, %d", len(l), lengths(l), len(m), left, at, e, len(want), wantLeft, wantAt, wantE)
		}
		if !samePieces(was, reached(l)) {
			t.Fatalf("Runs of %d pieces of %v has changed them", len(l), lengths(l))
		}
	}
	return Runs(l...)
}

// drawn is so many bytes.
func drawn(r *rand.Rand, n int) []byte {
	b := make([]byte, n)
	r.Read(b)
	return b
}

// someSize is a message's, from 1 to the greatest: small ones more often than not.
func someSize(r *rand.Rand) int { return 1 + r.Intn(1<<r.Intn(17)) }

// someN is one that a message of that size may be cut by: near 1, the size, a part of it, and the greatest.
func someN(r *rand.Rand, size int) int {
	near := []int{1, size, size / 2, size / 3, maxMessage, 1 + r.Intn(size), 1 + r.Intn(maxMessage)}
	return min(maxMessage, max(1, near[r.Intn(len(near))]-1+r.Intn(3)))
}

// someRow is pieces with flags and lengths as they come; good tells how often they are as they are to be.
func someRow(r *rand.Rand, count, good, most int) []api.Piece {
	var list []api.Piece
	within := false
	for range count {
		p := api.Piece{Begin: !within, End: r.Intn(3) == 0, Data: drawn(r, 1+r.Intn(most))}
		within = !p.End
		if r.Intn(good) == 0 {
			p.Begin = !p.Begin
		}
		switch r.Intn(2 * good) {
		case 0:
			p.Data = nil
		case 1:
			p.Data = []byte{}
		}
		list = append(list, p)
	}
	return list
}
