package reasm

import (
	"bytes"
	"math"
	"math/rand"
	"reflect"
	"slices"
	"strings"
	"testing"

	"ropewalk/api"
)

func TestNumbersOfErrorsAndLimits(t *testing.T) {
	if api.OK != 0 || api.ErrArg != 1 || api.ErrMany != 3 || api.ErrNil != 4 || api.ErrStream != 160 || api.ErrRoom != 161 || api.ErrSame != 200 || api.ErrData != 201 {
		t.Error("another number of an error")
	}
	if api.MaxStreams != maxStreams || api.MaxWindow != maxWindow || api.MaxBody != maxBody || api.MaxInFlight != maxInFlight || api.MaxAhead != maxAhead {
		t.Error("another limit")
	}
	if api.KData != 0 || api.FlagEnd != isEnd || api.FlagBegin != isBegin || api.FlagUnorder != isUnordered {
		t.Error("another number of a kind or a flag")
	}
}

func TestExample1(t *testing.T) {
	p := pairOf(t, 1, 100, 0)
	p.puts(p.data(7, isBegin, 1, "c"), p.data(5, isBegin, 0, "a"), p.data(8, isEnd, 1, "d"), p.data(6, isEnd, 0, "b"))
	p.fixed(4, 5, 6, 7, 8)
	p.takes("ab", "cd")
	p.fixed(4, 5, 6, 7, 8)
}

// A table that nobody made

func TestUnmadeTable(t *testing.T) {
	var nobody *Table
	for _, x := range []*Table{nobody, {}, new(Table)} {
		for range 2 { // the calls change nothing: it is as it was
			for _, n := range []uint32{0, 1, 2, half, top} {
				unmadeTSN(t, x, n)
			}
			if m, ok := x.Take(); ok || !sameMessage(m, api.Message{}) {
				t.Errorf("Take = %+v, %v", m, ok)
			}
			if x.Held() != 0 || x.Ready() != 0 || len(x.Chunks()) != 0 {
				t.Error("a table that nobody made holds something")
			}
		}
		if x != nil && !reflect.DeepEqual(x, &Table{}) {
			t.Error("a table that nobody made has changed")
		}
	}
}

func unmadeTSN(t *testing.T, x *Table, tsn uint32) {
	t.Helper()
	for _, c := range []api.Chunk{
		{}, {TSN: tsn, Flags: isBoth, Body: []byte("a")}, {TSN: tsn, Stream: 65535, Flags: 7, Body: []byte("a")},
		{Kind: api.KSack, TSN: tsn}, {Kind: 255, TSN: tsn, Stream: 9}, {TSN: tsn, Body: make([]byte, maxBody+1)},
	} {
		if e := x.Put(c); e != 4 {
			t.Errorf("Put = %d", e)
		}
	}
	if was, e := x.Drop(tsn); was || e != 4 {
		t.Errorf("Drop(%d) = %v, %d", tsn, was, e)
	}
	if e := x.Move(tsn); e != 4 {
		t.Errorf("Move(%d) = %d", tsn, e)
	}
	if len(x.Fixed(tsn)) != 0 {
		t.Errorf("Fixed(%d) = %v", tsn, x.Fixed(tsn))
	}
}

// P20.1

func TestNew(t *testing.T) {
	streams := []int{math.MinInt, math.MinInt32, -1024, -2, -1, 0, 1, 2, 512, 1023, 1024, 1025, 65535, 65536, 1 << 32, 1<<32 + 1, math.MaxInt - 1, math.MaxInt}
	limits := []int{math.MinInt, math.MinInt32, -maxWindow, -2, -1, 0, 1, 2, 65536, maxWindow - 1, maxWindow, maxWindow + 1, 1 << 32, 1<<32 + 1, math.MaxInt - 1, math.MaxInt}
	for _, n := range streams {
		for _, limit := range limits {
			x, e := New(n, limit)
			if n < 1 || n > 1024 || limit < 1 || limit > 1<<30 {
				if x != nil || e != 1 {
					t.Errorf("New(%d, %d) = %v, %d, want none, 1", n, limit, x, e)
				}
				continue
			}
			if x == nil || e != 0 {
				t.Fatalf("New(%d, %d) = %v, %d", n, limit, x, e)
			}
			p := &pair{t: t, table: x, model: modelOf(n, limit)}
			p.look()
			p.empty()
		}
	}
}

// P20.2

func TestPutNoData(t *testing.T) {
	for _, p := range pairs(t, 1, 100) {
		for kind := range 256 {
			c := p.data(int64(kind), isBoth, 9, "a")
			c.Kind = api.ChunkKind(kind)
			if kind != 0 {
				p.refuses(201, c)
			}
		}
		none, empty := p.data(0, isBoth, 9, ""), p.data(0, isBoth, 9, "")
		none.Body, empty.Body = nil, []byte{}
		p.refuses(201, none, empty)
		p.puts(p.data(0, isBoth, 9, "a"))
		p.refuses(201, none, empty)
	}
}

func TestPutBodies(t *testing.T) {
	p := pairOf(t, 1, maxWindow, top)
	longest := strings.Repeat("x", maxBody)
	p.puts(p.data(0, isBoth, 5, "a"), p.data(1, isBegin, 0, longest), p.data(3, isBoth, 1, longest))
	p.refuses(201, p.data(2, isEnd, 0, longest+"x"), p.data(2, isEnd, 0, longest+"xx"), p.data(2, isEnd, 0, strings.Repeat("x", 1<<16)), p.data(2, isEnd, 0, strings.Repeat("x", 1<<17)))
	p.puts(p.data(2, isEnd, 0, longest))
	p.takes(longest+longest, longest)
}

func TestPutStreams(t *testing.T) {
	for _, streams := range []int{1, 2, 3, 255, 256, 257, 1023, 1024} {
		p := pairOf(t, streams, 100, top)
		for _, n := range []int{streams, streams + 1, 1024, 1025, 32768, 65535} {
			c := p.data(0, isBoth, 0, "a")
			c.Stream = uint16(n)
			p.refuses(160, c)
		}
		for d, n := range []int{0, streams / 2, streams - 1} {
			c := p.data(int64(d), isBoth, 9, "a")
			c.Stream = uint16(n)
			p.puts(c)
		}
	}
}

func TestPutSame(t *testing.T) {
	for _, p := range pairs(t, 2, 100) {
		held := p.data(2, isBegin, 0, "a")
		other := p.data(2, isBoth+isUnordered, 7, "zzz")
		other.Stream = 1
		p.puts(held)
		p.refuses(200, held, other) // nothing of the later one plays a part
		p.puts(p.data(3, isEnd, 0, "b"))
		p.refuses(200, held, other, p.data(3, isEnd, 0, "b"), p.data(3, isBoth, 1, "b")) // fixed
		p.takes("ab")
		p.refuses(200, held, other, p.data(3, isEnd, 0, "b"), p.data(3, isBoth, 1, "b")) // taken
		p.move(on(p.base, 2))
		p.refuses(200, p.data(3, isEnd, 0, "b"))
		p.puts(other) // forgotten
		p.takes("zzz")
		p.puts(p.data(4, isBegin, 9, "c"))
		p.refuses(200, p.data(4, isBegin, 9, "c"))
		p.drops(true, on(p.base, 4))
		p.puts(p.data(4, isEnd, 9, "d")) // dropped
		p.move(on(p.base, 9))
		p.refuses(200, p.data(4, isEnd, 9, "d")) // what is held is not forgotten
	}
}

func TestPutRoom(t *testing.T) {
	for _, limit := range []int{1, 2, 9, 10, 11} {
		p := pairOf(t, 1, limit, top-1)
		p.refuses(161, p.data(0, isBoth, 9, strings.Repeat("x", limit+1)), p.data(0, isBoth, 9, strings.Repeat("x", maxBody)))
		p.puts(p.data(0, isBoth, 9, strings.Repeat("x", limit)))
		p.refuses(161, p.data(1, isBoth, 0, "y"), p.data(1, isBoth+isUnordered, 0, "y"))
		p.drops(true, p.on(0)...)
		p.puts(p.data(1, isBoth, 0, strings.Repeat("z", limit)))
		p.refuses(161, p.data(0, isBoth, 9, "x")) // bytes of what is ready, and not taken
		p.take()
		p.puts(p.data(0, isBoth, 9, strings.Repeat("x", limit)))
	}
}

func TestPutRoomOfAllKinds(t *testing.T) {
	p := pairOf(t, 1, 10, top-1)
	p.puts(p.data(0, isBegin, 0, "abc"), p.data(2, isBoth, 1, "xy"), p.data(1, isEnd, 0, "d"), p.data(4, isBoth, 7, "pq")) // 6 are ready, 2 are not
	p.refuses(161, p.data(5, isBoth, 8, "rst"), p.data(5, isBoth+isUnordered, 8, "rst"))
	p.puts(p.data(5, isBoth, 8, "rs"))
	p.refuses(161, p.data(6, isEnd, 9, "u"))
	if x, _ := p.take(); string(x.Data) != "abcd" || p.table.Held() != 6 {
		t.Errorf("%+v, Held = %d", x, p.table.Held())
	}
	p.refuses(161, p.data(6, isEnd, 9, "uvwxy"))
	p.puts(p.data(6, isEnd, 9, "uvwx"))
	p.takes("xy")
}

func TestRoomOfMaxWindow(t *testing.T) {
	x := made(t, 1, 1<<17)
	body := make([]byte, maxBody)
	for tsn, want := range []api.Errno{0, 0, 161} {
		if e := x.Put(api.Chunk{TSN: uint32(tsn), Body: body}); e != want {
			t.Errorf("Put = %d, want %d", e, want)
		}
	}
	for tsn, want := range map[uint32]api.Errno{7: 161, 8: 0} {
		if e := x.Put(api.Chunk{TSN: tsn, Body: make([]byte, 1<<17-2*maxBody+8-int(tsn))}); e != want {
			t.Errorf("Put = %d, want %d", e, want)
		}
	}
}

// many puts one chunk of one byte at each of these distances.
func many(t *testing.T, x *Table, from, to uint32, flags uint8) {
	t.Helper()
	for tsn := from; tsn != to; tsn++ {
		if e := x.Put(api.Chunk{TSN: tsn, Flags: flags, Body: []byte("a")}); e != 0 {
			t.Fatalf("Put(%d) = %d", tsn, e)
		}
	}
}

// full: one more is refused, whatever it is.
func full(t *testing.T, x *Table, tsn uint32) {
	t.Helper()
	held, ready, chunks, fixed := x.Held(), x.Ready(), x.Chunks(), x.Fixed(tsn)
	for flags := range uint8(8) {
		if e := x.Put(api.Chunk{TSN: tsn, Flags: flags, Body: []byte("a")}); e != 3 {
			t.Fatalf("Put(%d) = %d, want 3", tsn, e)
		}
	}
	if x.Held() != held || x.Ready() != ready || !slices.Equal(x.Chunks(), chunks) || !slices.Equal(x.Fixed(tsn), fixed) {
		t.Error("a refused one has changed something")
	}
}

func TestPutManyHeld(t *testing.T) {
	x := made(t, 1, maxWindow)
	many(t, x, top-1000, on(top-1000, maxInFlight), 0)
	if x.Held() != maxInFlight || len(x.Chunks()) != maxInFlight || x.Ready() != 0 {
		t.Errorf("Held %d, %d chunks", x.Held(), len(x.Chunks()))
	}
	full(t, x, maxInFlight)
	if was, e := x.Drop(0); !was || e != 0 {
		t.Errorf("Drop = %v, %d", was, e)
	}
	many(t, x, maxInFlight, maxInFlight+1, 0)
	full(t, x, 0)
}

func TestPutManyFixed(t *testing.T) {
	x := made(t, 1, maxWindow)
	many(t, x, top-1000, on(top-1000, maxInFlight), isBoth+isUnordered)
	for range maxInFlight {
		if m, ok := x.Take(); !ok || string(m.Data) != "a" {
			t.Fatalf("Take = %+v, %v", m, ok)
		}
	}
	if x.Held() != 0 || len(x.Chunks()) != 0 || len(x.Fixed(top-1001)) != maxInFlight {
		t.Errorf("Held %d, %d chunks, %d fixed", x.Held(), len(x.Chunks()), len(x.Fixed(top-1001)))
	}
	full(t, x, maxInFlight)
	if e := x.Move(top - 1000 + 2); e != 0 { // three are forgotten
		t.Errorf("Move = %d", e)
	}
	many(t, x, maxInFlight, maxInFlight+3, isBoth+isUnordered)
	full(t, x, maxInFlight+3)
	x.Move(maxInFlight + 3)
	if len(x.Fixed(top-1001)) != 0 {
		t.Error("not all are forgotten")
	}
	many(t, x, 0, maxInFlight, isBoth+isUnordered)
	full(t, x, maxInFlight)
}

func TestPutManyOfBoth(t *testing.T) {
	x := made(t, 1, maxWindow)
	many(t, x, 0, maxInFlight/2, isBoth+isUnordered)
	many(t, x, maxInFlight/2, maxInFlight, 0)
	full(t, x, maxInFlight)
	x.Take() // it is fixed all the same
	full(t, x, maxInFlight)
	x.Drop(maxInFlight - 1)
	many(t, x, maxInFlight, maxInFlight+1, 0)
	full(t, x, maxInFlight-1)
	x.Move(0)
	many(t, x, maxInFlight-1, maxInFlight, 0)
	full(t, x, maxInFlight+1)
}

// The last chunk that there may be makes a message of all of them.
func TestPutManyOfOneMessage(t *testing.T) {
	for _, first := range []uint32{0, top - 5, half - 9} {
		x := made(t, 1, maxWindow)
		last := first + maxInFlight - 1
		many(t, x, last, last+1, isEnd)
		many(t, x, first+1, last, 0)
		if x.Ready() != 0 {
			t.Error("ready without a beginning")
		}
		many(t, x, first, first+1, isBegin)
		full(t, x, last+1)
		if m, ok := x.Take(); !ok || !bytes.Equal(m.Data, bytes.Repeat([]byte("a"), maxInFlight)) {
			t.Errorf("Take = %d bytes, %v", len(m.Data), ok)
		}
		full(t, x, last+1)
		x.Move(last)
		many(t, x, first, first+maxInFlight, 0)
		full(t, x, last+1)
	}
}

func TestErrorsInOrder(t *testing.T) {
	x := made(t, 2, maxInFlight)
	many(t, x, 0, maxInFlight, 0) // no room, and too many
	wrong := []struct {
		c    api.Chunk
		want api.Errno
	}{
		{api.Chunk{Kind: 1, TSN: 5, Stream: 2, Body: []byte("a")}, 201},
		{api.Chunk{TSN: 5, Stream: 2}, 201},
		{api.Chunk{TSN: 5, Stream: 2, Body: make([]byte, maxBody+1)}, 201},
		{api.Chunk{TSN: 5, Stream: 2, Body: []byte("a")}, 160},
		{api.Chunk{TSN: 5, Stream: 1, Body: []byte("a")}, 200},
		{api.Chunk{TSN: maxInFlight, Stream: 1, Body: []byte("a")}, 161},
	}
	for _, w := range wrong {
		if e := x.Put(w.c); e != w.want {
			t.Errorf("Put = %d, want %d", e, w.want)
		}
		if x.Held() != maxInFlight || len(x.Chunks()) != maxInFlight || x.Ready() != 0 || len(x.Fixed(top)) != 0 {
			t.Error("an error has changed something")
		}
	}
}

func TestErrorsChangeNothing(t *testing.T) {
	for _, p := range pairs(t, 2, 12) {
		p.puts(p.data(0, isBegin, 0, "a"), p.data(3, isBoth, 1, "bc"), p.data(4, isBoth+isUnordered, 5, "d"), p.data(6, isEnd, 2, "e"))
		sack, brief, far, same, room := p.data(1, isEnd, 0, "x"), p.data(1, isEnd, 0, ""), p.data(1, isEnd, 0, "x"), p.data(4, isEnd, 0, "x"), p.data(1, isEnd, 0, "12345678")
		sack.Kind, far.Stream = api.KSack, 2
		for range 2 {
			p.refuses(201, sack, brief)
			p.refuses(160, far)
			p.refuses(200, same, p.data(0, isBoth, 0, "x"), p.data(3, isBoth, 0, "x"))
			p.refuses(161, room)
		}
		p.puts(p.data(1, isEnd, 0, "x"))
		p.takes("d", "ax", "bc")
	}
}

// What is whole

// message is a row of chunks, each of one byte of the text.
func (p *pair) message(d int64, flags uint8, ssn uint16, text string) []api.Chunk {
	var chunks []api.Chunk
	for i := range text {
		c := p.data(d+int64(i), flags, ssn, text[i:i+1])
		if i == 0 {
			c.Flags |= isBegin
		}
		if i == len(text)-1 {
			c.Flags |= isEnd
		}
		chunks = append(chunks, c)
	}
	return chunks
}

func TestMessagesOfSeveralChunks(t *testing.T) {
	for _, text := range []string{"a", "ab", "abc", "abcdefghijklmnopqrstuvwxyz"} {
		for _, flags := range []uint8{0, isUnordered} {
			for _, p := range pairs(t, 1, 100) {
				chunks := p.message(-1, flags, 0, text)
				p.puts(chunks...)
				p.takes(text)
				p.move(on(p.base, 50))
				slices.Reverse(chunks)
				for i := range chunks {
					chunks[i].SSN = 1
				}
				p.puts(chunks...)
				p.takes(text)
			}
		}
	}
}

func TestMessagesInDrawnOrders(t *testing.T) {
	text := "abcdefghijkl"
	for seed := range int64(200) {
		r := rand.New(rand.NewSource(seed))
		p := pairOf(t, 1, 100, bases()[r.Intn(len(bases()))])
		chunks := p.message(-1, uint8(r.Intn(2)*isUnordered), 0, text)
		for n, i := range r.Perm(len(chunks)) {
			p.readies(0)
			p.puts(chunks[i])
			if n < len(chunks)-1 && p.table.Held() != n+1 {
				t.Errorf("Held = %d", p.table.Held())
			}
		}
		p.takes(text)
	}
}

// All orders of five chunks that make two messages.
func TestAllOrders(t *testing.T) {
	var orders func(left []int, done func([]int))
	orders = func(left []int, done func([]int)) {
		if len(left) == 0 {
			done(nil)
		}
		for i, one := range left {
			rest := slices.Delete(slices.Clone(left), i, i+1)
			orders(rest, func(more []int) { done(append([]int{one}, more...)) })
		}
	}
	orders([]int{0, 1, 2, 3, 4}, func(order []int) {
		p := pairOf(t, 1, 100, top-2)
		chunks := append(p.message(0, 0, 0, "abc"), p.message(3, 0, 1, "de")...)
		for _, i := range order {
			p.puts(chunks[i])
		}
		p.takes("abc", "de")
	})
}

func TestMessageFields(t *testing.T) {
	for _, p := range pairs(t, 5, 100) {
		first, second, third := p.data(0, isBegin, 0, "ab"), p.data(1, 0, 0, "c"), p.data(2, isEnd, 0, "def")
		first.Flags |= others
		second.Flags |= 8 + 64
		first.Proto, second.Proto, third.Proto = 1<<31+7, 5, 6
		first.Stream, second.Stream, third.Stream = 3, 3, 3
		second.Tag, second.Window, second.Out, second.In = 1, 2, 3, 4
		second.Gaps, second.NR, second.Dups, second.Params = []api.Gap{{Start: 1, End: 2}}, []api.Gap{{Start: 9}}, []uint32{4}, []api.Param{{Type: 9, Body: []byte("x")}}
		p.puts(third, first, second)
		x, ok := p.take()
		if want := (api.Message{Stream: 3, Proto: 1<<31 + 7, Data: []byte("abcdef")}); !ok || !sameMessage(x, want) {
			t.Errorf("Take = %+v, want %+v", x, want)
		}
	}
}

func TestMessageOfUnordered(t *testing.T) {
	for _, p := range pairs(t, 5, 100) {
		for _, ssn := range []uint16{0, 1, 9, 65535} {
			chunks := p.message(0, isUnordered, ssn, "abc")
			for i := range chunks {
				chunks[i].Stream, chunks[i].Proto = 4, uint32(8+i)
			}
			p.puts(chunks...)
			x, ok := p.take()
			if want := (api.Message{Stream: 4, Proto: 8, Unordered: true, Data: []byte("abc")}); !ok || !sameMessage(x, want) {
				t.Errorf("Take = %+v, want %+v", x, want)
			}
			p.move(on(p.base, 2))
		}
		p.puts(with(p.data(9, isBoth, 0, "z"), func(c *api.Chunk) { c.Stream = 4 }))
		p.takes("z") // the stream's number is still 0
	}
}

// with is a chunk in which something is other than in its message.
func with(c api.Chunk, change func(*api.Chunk)) api.Chunk {
	change(&c)
	return c
}

// Rows that nothing makes whole.
func TestNotWhole(t *testing.T) {
	for _, p := range pairs(t, 2, 100) {
		row := p.message(0, 0, 0, "abcd")
		for name, chunks := range map[string][]api.Chunk{
			"no beginning":         {with(row[0], func(c *api.Chunk) { c.Flags = 0 }), row[1], row[2], row[3]},
			"no end":               {row[0], row[1], row[2], with(row[3], func(c *api.Chunk) { c.Flags = 0 })},
			"one is missing":       {row[0], row[1], row[3]},
			"the first is missing": {row[1], row[2], row[3]},
			"the last is missing":  {row[0], row[1], row[2]},
			"another stream":       {row[0], row[1], with(row[2], func(c *api.Chunk) { c.Stream = 1 }), row[3]},
			"another SSN":          {row[0], with(row[1], func(c *api.Chunk) { c.SSN = 1 }), row[2], row[3]},
			"an unordered one":     {row[0], row[1], with(row[2], func(c *api.Chunk) { c.Flags = isUnordered }), row[3]},
			"an unordered last":    {row[0], row[1], row[2], with(row[3], func(c *api.Chunk) { c.Flags = isEnd + isUnordered })},
			"an ordered one":       {with(row[0], func(c *api.Chunk) { c.Flags = isBegin + isUnordered }), row[1], row[2], row[3]},
			"another's last":       {row[0], row[1], row[2], with(row[3], func(c *api.Chunk) { c.Stream = 1 })},
			"a TSN too far":        {row[0], row[1], row[2], with(row[3], func(c *api.Chunk) { c.TSN++ })},
			"a TSN too near":       {with(row[0], func(c *api.Chunk) { c.TSN-- }), row[1], row[2], row[3]},
		} {
			for range 2 {
				p.puts(chunks...)
				p.readies(0)
				if p.table.Held() != len(chunks) || len(p.table.Chunks()) != len(chunks) {
					t.Errorf("%s: Held %d, Chunks %v", name, p.table.Held(), p.table.Chunks())
				}
				p.drops(true, p.table.Chunks()...)
				slices.Reverse(chunks)
			}
		}
	}
}

func TestAnotherSSNOfUnordered(t *testing.T) {
	p := pairOf(t, 1, 100, top)
	p.puts(p.data(0, isBegin+isUnordered, 4, "a"), p.data(1, isEnd+isUnordered, 5, "b"))
	p.readies(0)
	p.drops(true, p.on(1)...)
	p.puts(p.data(1, isEnd+isUnordered, 4, "b"))
	p.takes("ab")
}

func TestBeginningBetween(t *testing.T) {
	for _, p := range pairs(t, 1, 100) {
		row := p.message(0, 0, 0, "abcd")
		row[2].Flags = isBegin // of a row of its own: what stands ahead of it has no end
		p.puts(row[0], row[1], row[3])
		p.readies(0)
		p.puts(row[2])
		p.takes("cd")
		if !slices.Equal(p.table.Chunks(), slices.Sorted(slices.Values(p.on(0, 1)))) {
			t.Errorf("Chunks = %v", p.table.Chunks())
		}
		p.fixed(-1, 2, 3)
	}
}

func TestEndBetween(t *testing.T) {
	for _, p := range pairs(t, 1, 100) {
		row := p.message(0, 0, 0, "abcd")
		row[1].Flags = isEnd // what stands behind it has no beginning
		p.puts(row[3], row[2], row[1])
		p.readies(0)
		p.puts(row[0])
		p.takes("ab")
		if !slices.Equal(p.table.Chunks(), slices.Sorted(slices.Values(p.on(2, 3)))) {
			t.Errorf("Chunks = %v", p.table.Chunks())
		}
		p.fixed(-1, 0, 1)
		p.puts(p.data(4, isEnd, 0, "x"))
		p.readies(0)
	}
}

// A chunk that is a beginning and an end stands alone between the halves of another message.
func TestWholeOneBetween(t *testing.T) {
	p := pairOf(t, 1, 100, top-1)
	p.puts(p.data(0, isBegin, 0, "a"), p.data(2, isEnd, 0, "c"), p.data(1, isBoth, 0, "b"))
	p.takes("b")
	p.move(on(p.base, 1))
	p.puts(p.data(1, 0, 0, "x")) // the number is 1: abc of SSN 0 is whole, but not ready
	p.readies(0)
	if p.table.Held() != 3 {
		t.Errorf("Held = %d", p.table.Held())
	}
}

func TestOneMakesTwoRowsOne(t *testing.T) {
	for _, p := range pairs(t, 1, 100) {
		row := p.message(-3, 0, 0, "abcdefg")
		p.puts(row[0], row[2], row[1], row[6], row[4], row[5])
		p.readies(0)
		p.puts(row[3])
		p.takes("abcdefg")
	}
}

// An end that fits no more, and a beginning, split what would else be a row.
func TestRowsOfOneSSNSideBySide(t *testing.T) {
	for seed := range int64(100) {
		r := rand.New(rand.NewSource(seed))
		p := pairOf(t, 1, 100, top-4)
		chunks := slices.Concat(p.message(0, isUnordered, 3, "ab"), p.message(2, isUnordered, 3, "c"), p.message(3, isUnordered, 3, "def"), p.message(6, isUnordered, 3, "gh"))
		var texts []string
		for _, i := range r.Perm(len(chunks)) {
			p.puts(chunks[i])
			for p.table.Ready() > 0 {
				x, _ := p.take()
				texts = append(texts, string(x.Data))
			}
		}
		slices.Sort(texts)
		if !slices.Equal(texts, []string{"ab", "c", "def", "gh"}) {
			t.Errorf("%v", texts)
		}
	}
}

// P20.3

func TestTakeMany(t *testing.T) {
	p := pairOf(t, 2, 100, top-3)
	p.empty()
	p.puts(p.data(0, isBoth, 0, "one"), p.data(9, isBoth+isUnordered, 0, "two"))
	p.puts(with(p.data(5, isBoth, 0, "three"), func(c *api.Chunk) { c.Stream = 1 }), p.data(2, isBoth, 2, "five"), p.data(3, isBoth, 1, "four"))
	held := 19
	for n, want := range []string{"one", "two", "three", "four", "five"} {
		if p.table.Held() != held || p.table.Ready() != 5-n {
			t.Errorf("Held %d, Ready %d", p.table.Held(), p.table.Ready())
		}
		x, _ := p.take()
		if held -= len(want); string(x.Data) != want {
			t.Errorf("Take = %q, want %q", x.Data, want)
		}
	}
	p.empty()
	p.puts(p.data(4, isBoth, 3, "six"))
	p.takes("six")
}

// Messages come and are taken by turns, so that never all are taken.
func TestTakeByTurns(t *testing.T) {
	p := pairOf(t, 1, 100, top-20)
	for i := range 60 {
		p.puts(p.data(int64(i), isBoth, uint16(i), string(rune('A'+i))))
		if i < 3 {
			continue
		}
		if x, ok := p.take(); !ok || int(x.SSN) != i-3 || string(x.Data) != string(rune('A'+i-3)) {
			t.Fatalf("Take = %+v, %v", x, ok)
		}
		p.move(on(p.base, int64(i)))
	}
	p.readies(3)
}

func TestOrderedWait(t *testing.T) {
	for _, p := range pairs(t, 1, 100) {
		p.puts(p.message(6, 0, 3, "d")...)
		p.puts(p.message(4, 0, 2, "cc")...)
		p.puts(p.message(1, 0, 1, "bbb")...)
		p.readies(0)
		if p.table.Held() != 6 {
			t.Errorf("Held = %d", p.table.Held())
		}
		p.puts(p.message(9, 0, 5, "f")...)
		p.puts(p.message(0, 0, 0, "a")...)
		p.readies(4)
		p.takes("a", "bbb", "cc", "d")
		p.puts(p.message(8, 0, 4, "e")...)
		p.takes("e", "f")
	}
}

func TestTwoOfOneSSN(t *testing.T) {
	for _, p := range pairs(t, 1, 100) {
		late, soon := p.message(3, 0, 1, "late"), p.message(9, 0, 1, "soon")
		p.puts(late[:3]...)
		p.puts(soon...)
		p.puts(late[3]) // begun first, whole behind
		p.puts(p.message(1, 0, 2, "xy")...)
		p.puts(p.message(0, 0, 0, "z")...)
		p.takes("z", "soon", "xy")
		if p.table.Held() != 4 || len(p.table.Chunks()) != 4 {
			t.Errorf("Held %d, Chunks %v", p.table.Held(), p.table.Chunks())
		}
	}
}

// With a chunk that is dropped and comes again, a row is whole behind the other one.
func TestTwoOfOneSSNWithDrop(t *testing.T) {
	for _, p := range pairs(t, 1, 100) {
		one, two, three := p.message(1, 0, 1, "one"), p.message(4, 0, 1, "two"), p.message(7, 0, 1, "three")
		p.puts(slices.Concat(one, two, three)...)
		p.drops(true, one[1].TSN)
		p.puts(one[1])
		p.drops(true, two[0].TSN)
		p.puts(p.message(0, 0, 0, "z")...)
		p.takes("z", "three") // one is behind three now, two is not whole
		p.puts(two[0])
		p.readies(0)
	}
}

func TestPastSSN(t *testing.T) {
	p := pairOf(t, 1, 100, top-1)
	p.puts(p.data(0, isBoth, 0, "a"), p.data(1, isBoth, 1, "b"))
	p.puts(p.data(2, isBoth, 0, "x"), p.data(3, isBoth, 1, "y"), p.data(4, isBoth, 65535, "z"))
	p.takes("a", "b")
	if p.table.Held() != 3 || len(p.table.Chunks()) != 3 {
		t.Errorf("Held %d, Chunks %v", p.table.Held(), p.table.Chunks())
	}
	p.puts(p.data(5, isBoth, 2, "c"))
	p.takes("c")
}

func TestSSNsGoRound(t *testing.T) {
	x := made(t, 2, 1000)
	put := func(tsn uint32, stream, ssn uint16, body string) {
		t.Helper()
		if e := x.Put(api.Chunk{TSN: tsn, Stream: stream, Flags: isBoth, SSN: ssn, Body: []byte(body)}); e != 0 {
			t.Fatalf("Put(%d) = %d", tsn, e)
		}
	}
	want := func(ssn uint16, body string) {
		t.Helper()
		m, ok := x.Take()
		if !ok || m.SSN != ssn || m.Stream != 0 || string(m.Data) != body {
			t.Fatalf("Take = %+v, %v, want %d, %q", m, ok, ssn, body)
		}
	}
	put(half, 0, 0, "past")
	want(0, "past")
	put(half+1, 0, 0, "first again")
	put(half+2, 0, 0, "second again")
	put(half+3, 0, 1, "one again")
	put(half+4, 1, 1, "other")
	want(1, "one again")
	put(half+5, 0, 1, "a third one")
	for ssn := uint16(2); ssn != 0; ssn++ {
		tsn := top - 5 + uint32(ssn)
		put(tsn, 0, ssn, "x")
		want(ssn, "x")
		if ssn < 65535 && x.Ready() != 0 {
			t.Fatalf("%d: Ready = %d", ssn, x.Ready())
		}
		x.Move(tsn)
	}
	want(0, "first again")
	want(1, "a third one")
	if x.Ready() != 0 || !slices.Equal(x.Chunks(), []uint32{half + 2, half + 4}) {
		t.Errorf("Ready = %d, Chunks = %v", x.Ready(), x.Chunks())
	}
}

func TestUnorderedAmongOrdered(t *testing.T) {
	for _, p := range pairs(t, 1, 100) {
		p.puts(p.message(0, 0, 1, "bb")...)
		p.puts(p.message(2, isUnordered, 1, "uu")...)
		p.readies(1)
		p.puts(p.message(4, isUnordered, 0, "v")...)
		p.readies(2)
		p.puts(p.message(5, 0, 0, "a")...)
		p.puts(p.message(6, isUnordered, 65535, "w")...)
		p.takes("uu", "v", "a", "bb", "w")
	}
}

func TestStreamsKnowNothingOfOneAnother(t *testing.T) {
	for _, p := range pairs(t, maxStreams, 10000) {
		on := func(d int64, stream, ssn uint16, body string) api.Chunk {
			c := p.data(d, isBoth, ssn, body)
			c.Stream = stream
			return c
		}
		p.puts(on(0, 0, 1, "b"), on(1, 1023, 1, "y"), on(2, 7, 0, "p"), on(3, 7, 2, "r"))
		p.takes("p")
		p.puts(on(4, 1023, 0, "x"))
		p.takes("x", "y")
		p.puts(on(5, 7, 1, "q"), on(6, 0, 0, "a"))
		p.takes("q", "r", "a", "b")
	}
}

// P20.4

func TestDrop(t *testing.T) {
	for _, p := range pairs(t, 1, 100) {
		p.drops(false, p.on(0, 1, -1, half)...)
		p.puts(p.data(1, isBegin, 0, "ab"), p.data(2, 0, 0, "cd"), p.data(5, isBoth+isUnordered, 0, "e"))
		p.drops(false, p.on(0, 3, 4, 5, 6, half, half+1, half+2)...) // 5 is fixed
		if p.table.Held() != 5 {
			t.Errorf("Held = %d", p.table.Held())
		}
		p.drops(true, p.on(1)...)
		p.drops(false, p.on(1)...)
		if p.table.Held() != 3 || !slices.Equal(p.table.Chunks(), p.on(2)) {
			t.Errorf("Held %d, Chunks %v", p.table.Held(), p.table.Chunks())
		}
		p.takes("e")
		p.drops(false, p.on(5)...)
		p.puts(p.data(3, isEnd, 0, "f"))
		p.readies(0)
		p.puts(p.data(1, isBegin, 0, "xyz")) // it may come again, and be another one
		p.takes("xyzcdf")
		p.drops(false, p.on(1, 2, 3)...)
		p.move(on(p.base, 9))
		p.drops(false, p.on(1, 2, 3, 5)...)
	}
}

// Each chunk of a row that waits is dropped, and comes again: it is whole just then.
func TestDropOfWaiting(t *testing.T) {
	for _, p := range pairs(t, 1, 100) {
		for _, text := range []string{"a", "ab", "abc", "abcdefg"} {
			row := p.message(-2, 0, 1, text)
			p.puts(row...)
			for _, c := range row {
				p.drops(true, c.TSN)
				p.puts(c)
			}
			for _, c := range row {
				p.drops(true, c.TSN)
			}
			if p.table.Held() != 0 || len(p.table.Chunks()) != 0 {
				t.Errorf("Held %d, Chunks %v", p.table.Held(), p.table.Chunks())
			}
		}
	}
}

func TestDropAheadOfItsTurn(t *testing.T) {
	for at := range 3 {
		for _, p := range pairs(t, 1, 100) {
			row := p.message(1, 0, 1, "abc")
			p.puts(row...)
			p.puts(p.data(7, isBoth, 2, "z"))
			p.drops(true, row[at].TSN)
			p.puts(p.data(0, isBoth, 0, "y"))
			p.takes("y") // it is not whole: neither it nor what waits for it is ready
			p.puts(row[at])
			p.takes("abc", "z")
		}
	}
}

// A long row is parted at drawn places, and made one again.
func TestDropParts(t *testing.T) {
	for seed := range int64(60) {
		r := rand.New(rand.NewSource(seed))
		p := pairOf(t, 1, 100, bases()[r.Intn(len(bases()))])
		row := p.message(-7, 0, 1, "abcdefghijklmnopqrst")
		p.puts(row...)
		for range 3 {
			out := r.Perm(len(row))[:1+r.Intn(len(row))]
			for _, i := range out {
				p.drops(true, row[i].TSN)
			}
			for _, i := range r.Perm(len(out)) {
				p.puts(row[out[i]])
			}
		}
		p.puts(p.data(-8, isBoth, 0, "-"))
		p.takes("-", "abcdefghijklmnopqrst")
	}
}

func TestDropOneOfTwo(t *testing.T) {
	p := pairOf(t, 2, 100, top-1)
	ours, theirs := p.message(0, 0, 1, "ours"), p.message(4, 0, 1, "them")
	for i := range theirs {
		theirs[i].Stream = 1
	}
	p.puts(slices.Concat(ours, theirs)...)
	p.drops(true, theirs[3].TSN)
	p.puts(p.data(8, isBoth, 0, "a"), with(p.data(9, isBoth, 0, "b"), func(c *api.Chunk) { c.Stream = 1 }))
	p.takes("a", "ours", "b")
	p.puts(theirs[3])
	p.takes("them")
}

func TestDropOfManyEndsSoon(t *testing.T) {
	x := made(t, 1, maxWindow)
	many(t, x, top-9, on(top-9, maxInFlight), 0)
	for tsn := uint32(maxInFlight - 11); tsn != top-10; tsn-- { // from the last one on
		if was, e := x.Drop(tsn); !was || e != 0 {
			t.Fatalf("Drop(%d) = %v, %d", tsn, was, e)
		}
	}
	many(t, x, 0, maxInFlight, 0)
	for tsn := range uint32(maxInFlight) { // from the first one on
		if was, e := x.Drop(tsn); !was || e != 0 {
			t.Fatalf("Drop(%d) = %v, %d", tsn, was, e)
		}
	}
	if x.Held() != 0 || len(x.Chunks()) != 0 {
		t.Errorf("Held %d", x.Held())
	}
}

func TestChunksRising(t *testing.T) {
	p := pairOf(t, 1, 100, top-1)
	p.puts(p.data(3, 0, 0, "a"), p.data(0, 0, 0, "b"), p.data(1, 0, 1, "c"), p.data(2, 0, 0, "d"), p.data(half, 0, 0, "e"))
	if l := p.table.Chunks(); !slices.Equal(l, []uint32{0, 1, half - 2, top - 1, top}) {
		t.Errorf("Chunks = %v", l)
	}
}

// P20.5

func TestFixedByDistances(t *testing.T) {
	for _, p := range pairs(t, 1, 100) {
		for _, d := range []int64{-1, 0, 1, 2, 5, 65534, 65535, 65536, half - 1, math.MinInt32, -65535} {
			p.puts(p.data(d, isBoth+isUnordered, 0, "a"))
		}
		p.fixed(0, 1, 2, 5, 65534, 65535)
		p.fixed(1, 2, 5, 65534, 65535, 65536)
		p.fixed(-1, 0, 1, 2, 5, 65534)
		p.fixed(5, 65534, 65535, 65536)
		p.fixed(65535, 65536)
		p.fixed(65536)
		p.fixed(-2, -1, 0, 1, 2, 5)
		p.fixed(half-2, half-1, half)
		p.fixed(half-1, half)
		p.fixed(half)
		p.fixed(half + 1)
		p.fixed(-65535-1, -65535, -1)
		p.fixed(-65535, -1, 0)
		p.fixed(-65536-1, -65535)
	}
}

func TestFixedOnlyThose(t *testing.T) {
	p := pairOf(t, 1, 100, top-3)
	p.puts(p.data(1, isBoth, 1, "b"), p.data(2, isBegin, 0, "a"))
	p.fixed(0) // held ones are not
	p.puts(p.data(3, isEnd, 0, "a"))
	p.fixed(0, 1, 2, 3)
	p.fixed(0, 1, 2, 3)
	p.takes("aa", "b")
	p.fixed(0, 1, 2, 3) // taken ones still are
}

func TestMove(t *testing.T) {
	for _, p := range pairs(t, 1, 100) {
		for _, d := range []int64{-1, 0, 1, 2, 5, 65536, half - 3, half - 2, half - 1, half, half + 1} {
			p.puts(p.data(d, isBoth+isUnordered, 0, "a"))
		}
		p.puts(p.data(3, isBoth, 9, "held"), p.data(4, isBegin, 0, "too"))
		p.move(on(p.base, -2)) // what is half of all from it, or more, is behind it
		p.fixed(-3, -1, 0, 1, 2, 5)
		p.fixed(half-4, half-3)
		p.fixed(half - 3)
		p.move(on(p.base, 0))
		p.fixed(-3, 1, 2, 5)
		p.move(on(p.base, 0))
		p.move(on(p.base, 3))
		p.fixed(-3, 5)
		p.move(on(p.base, 4))
		p.fixed(-3, 5)
		p.move(on(p.base, 5))
		p.fixed(-3)
		p.fixed(9, 65536)
		p.move(on(p.base, 65536+half)) // half of all: no way forth
		p.fixed(9)
		if !slices.Equal(p.table.Chunks(), slices.Sorted(slices.Values(p.on(3, 4)))) || p.table.Ready() != 11 {
			t.Errorf("Chunks = %v, Ready = %d", p.table.Chunks(), p.table.Ready())
		}
	}
}

func TestMoveBelowAllAndAboveAll(t *testing.T) {
	for _, p := range pairs(t, 1, 100) {
		p.move(on(p.base, 7)) // none are there
		p.puts(p.message(3, 0, 0, "abc")...)
		p.move(on(p.base, 2))
		p.fixed(2, 3, 4, 5)
		p.move(on(p.base, 4))
		p.fixed(2, 5)
		p.move(on(p.base, 100))
		p.fixed(2)
		p.takes("abc")
		p.puts(p.data(4, isBoth, 1, "again"))
		p.takes("again")
	}
}

// What is handed in and told

func TestHandedInIsNotKept(t *testing.T) {
	x := made(t, 1, 100)
	first, second := []byte("abc"), []byte("def")
	x.Put(api.Chunk{TSN: 1, Flags: isBegin, Body: first})
	spoil(first, '#')
	x.Put(api.Chunk{TSN: 2, Flags: isEnd, Body: second})
	spoil(second, '#')
	single := []byte("ghi")
	x.Put(api.Chunk{TSN: 3, Flags: isBoth, SSN: 1, Body: single})
	spoil(single, '#')
	for _, want := range []string{"abcdef", "ghi"} {
		if m, ok := x.Take(); !ok || string(m.Data) != want {
			t.Errorf("Take = %q, %v", m.Data, ok)
		}
	}
}

func TestToldIsTheCallers(t *testing.T) {
	x := made(t, 1, 100)
	for i, text := range []string{"abc", "def", "ghi"} {
		x.Put(api.Chunk{TSN: uint32(i), Flags: isBoth, SSN: uint16(i), Body: []byte(text)})
		x.Put(api.Chunk{TSN: uint32(10 + i), Flags: isBegin, SSN: 9, Body: []byte(text)})
	}
	one, _ := x.Take()
	spoil(one.Data, '#')
	two, _ := x.Take()
	spoil(one.Data, '+')
	if string(two.Data) != "def" {
		t.Errorf("Take = %q", two.Data)
	}
	chunks, fixed := x.Chunks(), x.Fixed(top)
	spoil(x.Chunks(), 7)
	spoil(x.Fixed(top), 7)
	if !slices.Equal(chunks, []uint32{10, 11, 12}) || !slices.Equal(fixed, []uint32{0, 1, 2}) || !slices.Equal(x.Chunks(), chunks) || !slices.Equal(x.Fixed(top), fixed) {
		t.Errorf("Chunks %v, Fixed %v", x.Chunks(), x.Fixed(top))
	}
	if m, _ := x.Take(); string(m.Data) != "ghi" {
		t.Errorf("Take = %q", m.Data)
	}
}

// What was taken and forgotten leaves nothing behind.
func TestNothingIsLeft(t *testing.T) {
	p := pairOf(t, 2, 100, top-1)
	p.puts(p.message(3, 0, 1, "bc")...)
	p.puts(p.message(5, 0, 7, "x")...)
	p.puts(p.message(0, 0, 0, "a")...)
	p.drops(true, p.on(5)...)
	p.takes("a", "bc")
	p.move(on(p.base, 9))
	if x := p.table; len(x.pieces)+len(x.waiting)+len(x.fixed)+cap(x.ready) != 0 {
		t.Errorf("%+v", x)
	}
}

func TestTwoTables(t *testing.T) {
	a, b := pairOf(t, 1, 9, top), pairOf(t, 1, 9, top)
	a.puts(a.data(1, isBegin, 0, "abc"), a.data(5, isBoth, 1, "xy"))
	b.puts(b.data(2, isEnd, 0, "de"))
	a.look()
	b.puts(b.data(1, isBegin, 0, "fgh"))
	b.takes("fghde")
	b.move(on(b.base, 9))
	a.look()
	a.readies(0)
	a.drops(true, a.on(1)...)
	b.look()
	a.puts(a.data(1, isBoth, 0, "z"))
	a.takes("z", "xy")
	b.look()
	b.readies(0)
}

// P20.6, P20.7, P20.8 and all of the others, at drawn calls

// drawn is a chunk that has a chance to make something whole.
func (p *pair) drawn(r *rand.Rand) api.Chunk {
	stream := r.Intn(p.model.streams)
	ssn := p.model.begun[stream] + []int{-1, 0, 0, 0, 0, 1, 1, 2}[r.Intn(8)]
	flags := uint8([]int{0, isEnd, isEnd, isBegin, isBegin, isBoth, isBoth}[r.Intn(7)])
	if r.Intn(5) == 0 {
		flags |= isUnordered
	}
	flags |= uint8(r.Intn(256)) & others
	c := p.data(r.Int63n(20), flags, uint16(ssn), "abcd"[:1+r.Intn(4)])
	c.Stream, c.Proto = uint16(stream), r.Uint32()
	if len(p.model.held) > 0 && r.Intn(3) > 0 { // it may fit behind another one
		ahead := p.model.held[p.model.chunks()[r.Intn(len(p.model.held))]]
		c.TSN, c.Stream, c.SSN = on(ahead.TSN, 1), ahead.Stream, ahead.SSN
		c.Flags = c.Flags&^isUnordered | ahead.Flags&isUnordered
	}
	for range r.Intn(8) { // it is seldom one that came already
		if _, held := p.model.held[c.TSN]; held || slices.Contains(p.model.fixed, c.TSN) {
			c.TSN = on(p.base, r.Int63n(20))
		}
	}
	switch r.Intn(40) {
	case 0:
		c.Kind = api.ChunkKind(r.Intn(20))
	case 1:
		c.Stream = uint16(p.model.streams + r.Intn(3))
	case 2:
		c.Body = nil
	}
	return c
}

func TestDrawnCalls(t *testing.T) {
	readied := 0
	for seed := range int64(150) {
		r := rand.New(rand.NewSource(seed))
		p := pairOf(t, 1+r.Intn(3), 10+r.Intn(90), bases()[r.Intn(len(bases()))])
		told := make([]int, p.model.streams) // ordered messages of each stream
		for range 500 {
			switch n := r.Intn(20); {
			case n < 12:
				p.put(p.drawn(r))
			case n < 15:
				if x, ok := p.take(); ok && !x.Unordered {
					if int(x.SSN) != told[x.Stream]%65536 {
						t.Fatalf("stream %d: SSN %d, want %d", x.Stream, x.SSN, told[x.Stream])
					}
					told[x.Stream]++
					readied++
				}
			case n < 17:
				tsn := on(p.base, r.Int63n(16))
				_, held := p.model.held[tsn]
				p.drops(held, tsn)
			default:
				p.base = on(p.base, r.Int63n(5))
				p.move(on(p.base, r.Int63n(6)))
				for len(p.model.held) > 8 { // so that there is room for others
					p.drops(true, p.model.chunks()[r.Intn(len(p.model.held))])
				}
			}
		}
	}
	if readied < 2000 {
		t.Errorf("%d ordered messages were taken: too few to tell anything", readied)
	}
}

func TestDrawnCallsAtEdges(t *testing.T) {
	r := rand.New(rand.NewSource(20))
	numbers := []uint32{0, 1, 2, 65534, 65535, 65536, half - 1, half, half + 1, top - 65535, top - 1, top}
	kinds := []api.ChunkKind{0, 0, 0, 0, 0, 0, 1, 3, 16, 255}
	lengths := []int{0, 1, 1, 1, 2, 3, 100, maxBody, maxBody + 1}
	for range 100 {
		limit := []int{1, 2, 3, 50, 65535, maxWindow}[r.Intn(6)]
		p := pairOf(t, []int{1, 2, 1024}[r.Intn(3)], limit, 0)
		for range 60 {
			tsn := numbers[r.Intn(len(numbers))]
			switch r.Intn(6) {
			case 0:
				p.move(tsn)
			case 1:
				_, held := p.model.held[tsn]
				p.drops(held, tsn)
			case 2:
				p.take()
			default:
				p.put(api.Chunk{
					Kind: kinds[r.Intn(len(kinds))], Flags: uint8(r.Intn(256)), TSN: tsn, Stream: []uint16{0, 0, 1, 2, 1023, 1024, 65535}[r.Intn(7)],
					SSN: []uint16{0, 0, 1, 2, 32768, 65535}[r.Intn(6)], Proto: r.Uint32(), Tag: r.Uint32(), Window: r.Uint32(), Out: 65535, In: 1,
					Gaps: []api.Gap{{Start: 9, End: 1}}, NR: make([]api.Gap, 2), Dups: []uint32{tsn}, Body: make([]byte, lengths[r.Intn(len(lengths))]), Params: make([]api.Param, 1),
				})
			}
		}
	}
}

// sent are messages of several streams, in the order in which they were sent, and the chunks that they were cut into.
func (p *pair) sent(r *rand.Rand, count int) ([]api.Message, []api.Chunk) {
	var messages []api.Message
	var chunks []api.Chunk
	ssns := make([]uint16, p.model.streams)
	for range count {
		m := api.Message{Stream: uint16(r.Intn(p.model.streams)), Proto: r.Uint32(), Unordered: r.Intn(4) == 0}
		ssn := uint16(r.Intn(3))
		if !m.Unordered {
			ssn, m.SSN = ssns[m.Stream], ssns[m.Stream]
			ssns[m.Stream]++
		}
		pieces := 1 + r.Intn(5)
		for i := range pieces {
			c := p.data(int64(len(chunks)), 0, ssn, string(rune('a'+r.Intn(26)))+strings.Repeat("-", r.Intn(3)))
			c.Stream, c.Proto = m.Stream, m.Proto+uint32(i)
			if m.Unordered {
				c.Flags |= isUnordered
			}
			if i == 0 {
				c.Flags |= isBegin
			}
			if i == pieces-1 {
				c.Flags |= isEnd
			}
			m.Data = append(m.Data, c.Body...)
			chunks = append(chunks, c)
		}
		messages = append(messages, m)
	}
	return messages, chunks
}

func TestAnyOrder(t *testing.T) {
	for seed := range int64(60) {
		r := rand.New(rand.NewSource(seed))
		p := pairOf(t, 1+r.Intn(4), 1<<16, bases()[r.Intn(len(bases()))])
		messages, chunks := p.sent(r, 1+r.Intn(20))
		var got []api.Message
		for _, i := range r.Perm(len(chunks)) {
			p.puts(chunks[i])
			if r.Intn(3) == 0 { // a held one is dropped, and comes again
				for _, tsn := range p.table.Chunks()[:min(1, len(p.table.Chunks()))] {
					p.drops(true, tsn)
					p.puts(chunks[whole(p.base, tsn)])
				}
			}
			p.refuses(200, chunks[i])
			if r.Intn(2) == 0 && p.table.Ready() > 0 {
				x, _ := p.take()
				got = append(got, x)
			}
		}
		for p.table.Ready() > 0 {
			x, _ := p.take()
			got = append(got, x)
		}
		for _, c := range chunks {
			p.refuses(200, c)
		}
		if p.table.Held() != 0 || len(p.table.Chunks()) != 0 || len(got) != len(messages) {
			t.Fatalf("Held %d, %d of %d messages", p.table.Held(), len(got), len(messages))
		}
		sameOfEachStream(t, p.model.streams, got, messages)
	}
}

// sameOfEachStream: the ordered ones in their order, the unordered ones each once.
func sameOfEachStream(t *testing.T, streams int, got, want []api.Message) {
	t.Helper()
	of := func(list []api.Message, stream int, unordered bool) []api.Message {
		var some []api.Message
		for _, m := range list {
			if int(m.Stream) == stream && m.Unordered == unordered {
				some = append(some, m)
			}
		}
		if unordered {
			slices.SortFunc(some, func(a, b api.Message) int { return int(a.Proto>>1) - int(b.Proto>>1) })
		}
		return some
	}
	for stream := range streams {
		for _, unordered := range []bool{false, true} {
			if a, b := of(got, stream, unordered), of(want, stream, unordered); !slices.EqualFunc(a, b, sameMessage) {
				t.Fatalf("stream %d, unordered %v: %+v, want %+v", stream, unordered, a, b)
			}
		}
	}
}

// Held is not above limit, whatever is put: look holds them against one another behind each call.
func TestBounded(t *testing.T) {
	for limit := 1; limit < 30; limit++ {
		r := rand.New(rand.NewSource(int64(limit)))
		p := pairOf(t, 2, limit, top-50)
		reached := false
		for i := range 150 {
			c := p.drawn(r)
			c.TSN = on(p.base, int64(i))
			p.put(c)
			reached = reached || p.table.Held() == limit
			if r.Intn(6) == 0 {
				p.take()
			}
		}
		if !reached {
			t.Errorf("limit %d was not reached", limit)
		}
	}
}
