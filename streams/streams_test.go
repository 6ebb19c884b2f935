package streams

import (
	"bytes"
	"math"
	"math/rand"
	"reflect"
	"slices"
	"strconv"
	"strings"
	"testing"

	"ropewalk/api"
)

// short tells a piece in short: its stream, "(" if it is the first one, its data, ")" if it is the last one.
func short(p api.Part) string {
	text := strconv.Itoa(int(p.Stream))
	if p.Begin {
		text += "("
	}
	text += string(p.Data)
	if p.End {
		text += ")"
	}
	return text
}

// plain is a message of so many bytes that tell their places.
func plain(n int) []byte {
	b := make([]byte, n)
	for i := range b {
		b[i] = byte(i ^ i>>8)
	}
	return b
}

// comes holds the next pieces of n bytes against what is told in short.
func (p *pair) comes(n int, want ...string) {
	p.t.Helper()
	for _, w := range want {
		if got := p.takes(n); got != w {
			p.t.Errorf("Take(%d) = %s, want %s", n, got, w)
		}
	}
}

// several is a pair with messages on three of four streams, one of which is begun.
func several(t *testing.T) *pair {
	t.Helper()
	p := pairOf(t, 4, 30)
	p.put(1, "abcde")
	p.put(0, "fgh")
	p.loose(1, "ij")
	p.put(3, "k")
	p.comes(10, "0(fgh)")
	p.comes(2, "1(ab")
	p.free(4)
	return p
}

// wrongNs are numbers of bytes that are none.
func wrongNs() []int { return []int{math.MinInt, math.MinInt + 1, math.MinInt32, -65536, -2, -1, 0} }

func TestNumbersOfErrorsAndLimits(t *testing.T) {
	if api.OK != 0 || api.ErrArg != 1 || api.ErrLong != 2 || api.ErrNil != 4 || api.ErrRange != 5 || api.ErrStream != 160 || api.ErrRoom != 161 {
		t.Error("another number of an error")
	}
	if api.MaxStreams != maxStreams || api.MaxWindow != maxWindow || api.MaxMessage != maxMessage {
		t.Error("another limit")
	}
}

func TestExample(t *testing.T) {
	q := made(t, 2, 10)
	if a, b, c := q.Push(0, 5, false, 'a', 'b', 'c', 'd'), q.Push(1, 6, true, 'e', 'f'), q.Push(0, 7, false, 'g'); a != 0 || b != 0 || c != 0 {
		t.Fatal(a, b, c)
	}
	for _, want := range []api.Part{
		{Message: api.Message{Stream: 0, Proto: 5, Data: []byte("abc")}, Begin: true},
		{Message: api.Message{Stream: 0, Proto: 5, Data: []byte("d")}, End: true},
		{Message: api.Message{Stream: 1, Proto: 6, Unordered: true, Data: []byte("ef")}, Begin: true, End: true},
		{Message: api.Message{Stream: 0, SSN: 1, Proto: 7, Data: []byte("g")}, Begin: true, End: true},
	} {
		if got, ok := q.Take(3); !ok || !samePart(got, want) {
			t.Errorf("%+v, %v, want %+v", got, ok, want)
		}
	}
	if e := q.Push(1, 0, false, 1, 2, 3, 4); e != 161 {
		t.Error(e)
	}
	if e := q.Free(4); e != 0 {
		t.Error(e)
	}
	if e := q.Push(1, 0, false, 1, 2, 3, 4); e != 0 {
		t.Error(e)
	}
}

// A queue that nobody made

func TestUnmadeQueue(t *testing.T) {
	var none *Queue
	for _, q := range []*Queue{none, {}, new(Queue)} {
		for range 2 { // the calls change nothing: it is as it was
			for _, stream := range []uint16{0, 1, 1023, 1024, 65535} {
				for _, data := range [][]byte{nil, {}, {1}, plain(65536), plain(65537)} {
					if e := q.Push(stream, 7, len(data) == 1, data...); e != 4 {
						t.Errorf("Push(%d) of %d bytes = %d", stream, len(data), e)
					}
				}
				if n := q.Count(stream); n != 0 {
					t.Errorf("Count(%d) = %d", stream, n)
				}
			}
			for _, n := range append(wrongNs(), 1, 2, 65536, math.MaxInt) {
				if e := q.Free(n); e != 4 {
					t.Errorf("Free(%d) = %d", n, e)
				}
				if p, ok := q.Take(n); ok || !samePart(p, api.Part{}) {
					t.Errorf("Take(%d) = %+v, %v", n, p, ok)
				}
			}
			if q.Held() != 0 || q.Waiting() != 0 || q.Taken() != 0 {
				t.Errorf("Held, Waiting, Taken = %d, %d, %d", q.Held(), q.Waiting(), q.Taken())
			}
			if stream, left, ok := q.Next(); stream != 0 || left != 0 || ok {
				t.Errorf("Next = %d, %d, %v", stream, left, ok)
			}
		}
		if q != nil && !reflect.DeepEqual(q, &Queue{}) {
			t.Error("a queue that nobody made has changed")
		}
	}
}

// P16.1

func TestNew(t *testing.T) {
	good := func(n, most int) bool { return 1 <= n && n <= most }
	for _, streams := range []int{math.MinInt, -1024, -1, 0, 1, 2, 1023, 1024, 1025, 65536, 1 << 32, 1<<32 + 1, math.MaxInt} {
		for _, limit := range []int{math.MinInt, -maxWindow, -1, 0, 1, 2, 65536, maxWindow - 1, maxWindow, maxWindow + 1, 1 << 32, 1<<32 + 1, math.MaxInt} {
			q, e := New(streams, limit)
			if good(streams, maxStreams) && good(limit, maxWindow) {
				if q == nil || e != 0 {
					t.Errorf("New(%d, %d) = %v, %d", streams, limit, q, e)
				} else {
					(&pair{t: t, queue: q, model: &model{streams: streams, limit: limit}}).look()
				}
			} else if q != nil || e != 1 {
				t.Errorf("New(%d, %d) = %v, %d, want none, 1", streams, limit, q, e)
			}
		}
	}
}

func TestNewIsEmpty(t *testing.T) {
	for _, streams := range []int{1, 2, 1024} {
		p := pairOf(t, streams, 1)
		p.look()
		if p.queue.Held() != 0 || p.queue.Waiting() != 0 || p.queue.Taken() != 0 || p.queue.Count(0) != 0 {
			t.Error("a new queue holds something")
		}
		p.comes(1, "none")
		p.free(1)
		p.drain(1)
	}
}

func TestPushStream(t *testing.T) {
	for _, streams := range []int{1, 2, 7, 1023, 1024} {
		for _, stream := range []int{0, streams - 1, streams, streams + 1, 1024, 32768, 65535} {
			p := pairOf(t, streams, 10)
			want := api.Errno(0)
			if stream >= streams {
				want = 160
			}
			if e := p.push(uint16(stream), 1, false, []byte("ab")); e != want {
				t.Errorf("Push(%d) of %d streams = %d, want %d", stream, streams, e, want)
			}
			p.look()
			p.drain(1)
		}
	}
}

func TestPushLength(t *testing.T) {
	for n, want := range map[int]api.Errno{0: 2, 1: 0, 2: 0, 65535: 0, 65536: 0, 65537: 2, 65538: 2, 1 << 17: 2} {
		p := pairOf(t, 2, maxWindow)
		if e := p.push(1, 1, false, plain(n)); e != want {
			t.Errorf("Push of %d bytes = %d, want %d", n, e, want)
		}
		p.look()
		p.drain(30000)
	}
	p := pairOf(t, 2, 10)
	if e := p.queue.Push(0, 1, false); e != 2 {
		t.Errorf("Push of none = %d", e)
	}
	for _, none := range [][]byte{nil, {}, plain(3)[:0]} {
		if e := p.queue.Push(0, 1, true, none...); e != 2 {
			t.Errorf("Push of no byte = %d", e)
		}
	}
	p.look()
}

func TestPushRoom(t *testing.T) {
	for _, limit := range []int{1, 2, 10, 65535, 65536, 65537} {
		for used := range min(limit, 4) {
			for d := range 2 {
				n := limit - used + d
				if n > maxMessage {
					continue
				}
				p := pairOf(t, 2, limit)
				if used > 0 {
					p.push(0, 1, false, plain(used))
				}
				want := api.Errno(161 * d)
				if e := p.push(1, 1, false, plain(n)); e != want {
					t.Errorf("Push of %d bytes with %d of %d held = %d, want %d", n, used, limit, e, want)
				}
				if e := p.push(0, 1, false, []byte{1}); e != 0 != (used+n*(1-d) >= limit) {
					t.Errorf("Push of one byte with %d of %d held = %d", p.queue.Held(), limit, e)
				}
				p.look()
				p.drain(1000)
			}
		}
	}
}

func TestPushErrorsInOrder(t *testing.T) {
	for _, c := range []struct {
		stream uint16
		n      int
		want   api.Errno
	}{
		{2, 0, 160}, {2, 1, 160}, {2, 4, 160}, {2, 65537, 160}, {65535, 0, 160}, {65535, 65537, 160},
		{0, 0, 2}, {1, 65537, 2}, {0, 4, 161}, {1, 65536, 161}, {1, 3, 0},
	} {
		p := pairOf(t, 2, 5)
		p.put(0, "ab")
		if e := p.push(c.stream, 9, false, plain(c.n)); e != c.want {
			t.Errorf("Push(%d) of %d bytes = %d, want %d", c.stream, c.n, e, c.want)
		}
	}
}

func TestPushErrorsInOrderWhenFull(t *testing.T) {
	p := pairOf(t, 1, 1)
	p.put(0, "a")
	for _, c := range []struct {
		stream uint16
		n      int
		want   api.Errno
	}{{1, 0, 160}, {1, 1, 160}, {1, 65537, 160}, {0, 0, 2}, {0, 65537, 2}, {0, 65536, 161}, {0, 1, 161}} {
		if e := p.push(c.stream, 9, true, plain(c.n)); e != c.want {
			t.Errorf("Push(%d) of %d bytes = %d, want %d", c.stream, c.n, e, c.want)
		}
	}
	p.drain(1)
}

func TestRefusedPushChangesNothing(t *testing.T) {
	refuse := func(p *pair) {
		for _, unordered := range []bool{false, true} {
			for stream, n := range map[uint16]int{4: 1, 1024: 2, 65535: 0, 0: 0, 1: 65537, 2: 31, 3: 65536} {
				if e := p.push(stream, 77, unordered, plain(n)); e == 0 {
					t.Errorf("Push(%d) of %d bytes went", stream, n)
				}
				p.look()
			}
		}
	}
	refuse(pairOf(t, 4, 30))
	p := several(t)
	refuse(p)
	p.comes(2, "1cd")
	refuse(p)
	p.comes(2, "1e)", "3(k)", "1(ij)", "none")
	refuse(p)
	p.put(0, "x")
	p.put(1, "y")
	p.drain(1)
	for _, part := range p.parts { // no number was spent
		if string(part.Data) == "x" && part.SSN != 1 || string(part.Data) == "y" && part.SSN != 1 {
			t.Errorf("%+v", part)
		}
	}
}

func TestRoomComesBackByFreeAlone(t *testing.T) {
	p := pairOf(t, 2, 6)
	p.put(0, "abcd")
	refused := func(data string) {
		t.Helper()
		if e := p.push(1, 1, false, []byte(data)); e != 161 {
			t.Errorf("Push of %q = %d with %d held", data, e, p.queue.Held())
		}
		p.look()
	}
	refused("xyz")
	p.comes(1, "0(a")
	refused("xyz")
	p.comes(9, "0bcd)")
	refused("xyz")
	p.free(0)
	refused("xyz")
	p.free(1)
	p.put(1, "xyz")
	refused("u")
	p.free(2)
	refused("uvw")
	p.put(0, "uv")
	refused("w")
	p.free(1)
	p.put(0, "w")
	refused("z")
	p.comes(9, "1(xyz)", "0(uv)", "0(w)", "none")
	refused("z")
	p.free(6)
	p.put(1, "abcdef")
	p.drain(4)
}

// Bytes that are taken count as long as they are not freed: so the greatest limit is reached without that many in memory.
func TestGreatestLimit(t *testing.T) {
	q, data := made(t, 1, maxWindow), plain(65536)
	for range maxWindow / maxMessage {
		if e := q.Push(0, 0, true, data...); e != 0 {
			t.Fatalf("Push = %d with %d held", e, q.Held())
		}
		if p, ok := q.Take(math.MaxInt); !ok || len(p.Data) != maxMessage {
			t.Fatalf("Take = %d bytes, %v", len(p.Data), ok)
		}
	}
	if q.Held() != maxWindow || q.Taken() != maxWindow || q.Waiting() != 0 {
		t.Errorf("Held, Taken, Waiting = %d, %d, %d", q.Held(), q.Taken(), q.Waiting())
	}
	if e := q.Push(0, 0, true, 1); e != 161 {
		t.Errorf("Push = %d", e)
	}
	if a, b := q.Free(maxWindow+1), q.Free(1); a != 5 || b != 0 {
		t.Errorf("Free = %d, %d", a, b)
	}
	if a, b, c := q.Push(0, 0, true, 1, 2), q.Push(0, 0, true, 1), q.Push(0, 0, true, 1); a != 161 || b != 0 || c != 161 {
		t.Errorf("Push = %d, %d, %d", a, b, c)
	}
}

// P16.2

func TestTakeOfEmpty(t *testing.T) {
	for _, n := range append(wrongNs(), 1, 2, 65536, math.MaxInt) {
		p := pairOf(t, 3, 10)
		if got, ok := p.queue.Take(n); ok || !samePart(got, api.Part{}) || len(got.Data) != 0 {
			t.Errorf("Take(%d) = %+v, %v", n, got, ok)
		}
		p.look()
		p.put(2, "ab")
		p.put(1, "c")
		p.comes(5, "1(c)", "2(ab)")
		p.comes(n, "none")
		p.look()
	}
}

func TestTakeOfNothing(t *testing.T) {
	for _, n := range wrongNs() {
		p := several(t)
		p.comes(n, "none", "none")
		p.look()
		p.comes(2, "1cd")
		p.comes(n, "none")
		p.comes(2, "1e)")
		p.comes(n, "none")
		p.look()
		p.comes(2, "3(k)")
		p.comes(n, "none")
		p.comes(2, "1(ij)")
		p.comes(n, "none")
		p.look()
	}
}

// A number is not spent on a message of which nothing is taken.
func TestTakeOfNothingBeginsNothing(t *testing.T) {
	p := pairOf(t, 2, 10)
	p.put(1, "ab")
	p.comes(0, "none")
	p.comes(-1, "none")
	p.put(0, "cd")
	p.comes(0, "none")
	p.comes(9, "0(cd)", "1(ab)")
	if p.parts[0].SSN != 0 || p.parts[1].SSN != 0 {
		t.Errorf("%+v", p.parts)
	}
}

func TestTakeLengths(t *testing.T) {
	for _, size := range []int{1, 2, 3, 10, 65535, 65536} {
		for _, n := range []int{1, 2, size - 1, size, size + 1, size / 2, 1 << 32, math.MaxInt} {
			if n < 1 || size > 1000 && n < 1000 {
				continue
			}
			p := pairOf(t, 2, 70000)
			p.push(1, 3, false, plain(size))
			var all []byte
			for i := 0; ; i++ {
				part, ok := p.take(n)
				if !ok {
					break
				}
				all = append(all, part.Data...)
				if part.Begin != (i == 0) || part.End != (len(all) == size) || len(part.Data) != n && !part.End {
					t.Errorf("%d bytes by %d: piece %d has %d bytes, %v, %v", size, n, i, len(part.Data), part.Begin, part.End)
				}
			}
			if !bytes.Equal(all, plain(size)) {
				t.Errorf("%d bytes by %d are other bytes", size, n)
			}
			p.look()
		}
	}
}

func TestTakeOfGreatMessageByteByByte(t *testing.T) {
	q, data := made(t, 1, maxMessage), plain(maxMessage)
	if e := q.Push(0, 1, false, data...); e != 0 {
		t.Fatal(e)
	}
	for i, b := range data {
		if _, left, ok := q.Next(); left != maxMessage-i || !ok || q.Count(0) != 1 {
			t.Fatalf("Next = %d, %v at %d", left, ok, i)
		}
		p, ok := q.Take(1)
		if !ok || len(p.Data) != 1 || p.Data[0] != b || p.Begin != (i == 0) || p.End != (i == maxMessage-1) || p.SSN != 0 {
			t.Fatalf("Take = %+v, %v at %d", p, ok, i)
		}
	}
	if _, ok := q.Take(1); ok || q.Count(0) != 0 || q.Taken() != maxMessage {
		t.Error("something is left")
	}
}

func TestTakeBySeveralLengths(t *testing.T) {
	p := pairOf(t, 1, 20)
	p.put(0, "abcdefghij")
	p.put(0, "k")
	p.put(0, "lm")
	p.comes(1, "0(a")
	p.comes(3, "0bcd")
	p.comes(2, "0ef")
	p.comes(4, "0ghij)")
	p.comes(1, "0(k)", "0(l")
	p.comes(math.MaxInt, "0m)", "none")
}

func TestFieldsOfEveryPiece(t *testing.T) {
	p := pairOf(t, 1024, 100)
	protos := []uint32{0, 1, 1 << 16, 1<<32 - 1}
	for i, proto := range protos {
		for _, unordered := range []bool{false, true} {
			p.need(p.push(uint16(i*341), proto, unordered, []byte("abcde")))
		}
	}
	for i := range 24 {
		m := i / 3 % 4
		part, ok := p.take(2)
		if !ok || part.Stream != uint16(m*341) || part.Proto != protos[m] || part.Unordered != (i >= 12) || part.SSN != 0 {
			t.Errorf("piece %d: %+v, %v", i, part, ok)
		}
		if part.Begin != (i%3 == 0) || part.End != (i%3 == 2) || string(part.Data) != []string{"ab", "cd", "e"}[i%3] {
			t.Errorf("piece %d: %+v", i, part)
		}
	}
	p.comes(2, "none")
}

// numbers are the SSNs of the pieces that were taken, of one stream.
func (p *pair) numbers(stream uint16) []uint16 {
	var list []uint16
	for _, part := range p.parts {
		if part.Stream == stream {
			list = append(list, part.SSN)
		}
	}
	return list
}

func TestNumbersByStreams(t *testing.T) {
	p := pairOf(t, 3, 100)
	for _, stream := range []uint16{2, 0, 2, 2, 1, 0, 2} {
		p.put(stream, "ab")
	}
	p.drain(2)
	for stream, want := range [][]uint16{{0, 1}, {0}, {0, 1, 2, 3}} {
		if got := p.numbers(uint16(stream)); !slices.Equal(got, want) {
			t.Errorf("stream %d: %v, want %v", stream, got, want)
		}
	}
}

func TestUnorderedCountsNone(t *testing.T) {
	p := pairOf(t, 2, 100)
	for _, c := range "uoouuouo" {
		if c == 'u' {
			p.loose(1, "u")
		} else {
			p.put(1, "o")
		}
	}
	p.drain(1)
	if got, want := p.numbers(1), []uint16{0, 0, 1, 0, 0, 2, 0, 3}; !slices.Equal(got, want) {
		t.Errorf("%v, want %v", got, want)
	}
}

func TestOneNumberForAllPieces(t *testing.T) {
	p := pairOf(t, 3, 100)
	p.put(1, "a")
	p.put(1, "bcdef")
	p.loose(1, "gh")
	p.put(1, "ij")
	p.comes(1, "1(a)", "1(b")
	p.put(0, "xy")
	p.put(2, "z")
	p.comes(1, "1c")
	p.put(1, "kl")
	p.put(0, "w")
	p.comes(1, "1d", "1e")
	p.loose(2, "v")
	p.comes(1, "1f)", "2(z)", "0(x", "0y)")
	p.drain(1)
	for stream, want := range [][]uint16{{0, 0, 1}, {0, 1, 1, 1, 1, 1, 0, 0, 2, 2, 3, 3}, {0, 0}} {
		if got := p.numbers(uint16(stream)); !slices.Equal(got, want) {
			t.Errorf("stream %d: %v, want %v", stream, got, want)
		}
	}
}

func TestNumbersGoRound(t *testing.T) {
	q := made(t, 2, 10)
	for i := range 65536*2 + 3 {
		if i%3 == 0 { // unordered ones between them
			q.Push(1, 0, true, 1)
			if p, ok := q.Take(1); !ok || p.SSN != 0 || !p.Unordered {
				t.Fatalf("unordered: %+v, %v", p, ok)
			}
			q.Free(1)
		}
		if e := q.Push(1, 0, false, 1, 2); e != 0 {
			t.Fatal(e)
		}
		a, _ := q.Take(1)
		b, ok := q.Take(1)
		if want := uint16(i % 65536); !ok || a.SSN != want || b.SSN != want || !a.Begin || !b.End {
			t.Fatalf("message %d: %+v, %+v", i, a, b)
		}
		q.Free(2)
	}
	q.Push(0, 0, false, 1)
	if p, ok := q.Take(1); !ok || p.SSN != 0 || p.Stream != 0 {
		t.Errorf("the other stream: %+v, %v", p, ok)
	}
}

// Many wait, so that the number can't have been given by what was pushed just ahead.
func TestNumbersAreGivenWhenBegun(t *testing.T) {
	p := pairOf(t, 3, 1000)
	for i := range 20 {
		p.put(uint16(i%3), "o"+strconv.Itoa(i))
		if i%4 == 1 {
			p.loose(uint16(i%3), "u"+strconv.Itoa(i))
		}
	}
	var begun [3]uint16
	for {
		part, ok := p.take(100)
		if !ok {
			break
		}
		want := uint16(0)
		if !part.Unordered {
			want = begun[part.Stream]
			begun[part.Stream]++
		}
		if part.SSN != want {
			t.Errorf("%+v, want SSN %d", part, want)
		}
	}
	if begun != [3]uint16{7, 7, 6} {
		t.Errorf("%v", begun)
	}
}

// The next stream

func TestNextOfNoneBegunIsFromZeroOn(t *testing.T) {
	for first := range 5 {
		p := pairOf(t, 5, 100)
		for stream := 4; stream >= first; stream-- {
			p.put(uint16(stream), "a")
		}
		if stream, left, ok := p.next(); int(stream) != first || left != 1 || !ok {
			t.Errorf("Next = %d, %d, %v, want %d", stream, left, ok, first)
		}
		p.comes(1, strconv.Itoa(first)+"(a)")
	}
	p := pairOf(t, 3, 100)
	p.put(2, "c")
	p.put(1, "b")
	p.next()
	p.put(0, "a")
	p.comes(1, "0(a)", "1(b)", "2(c)", "none")
}

func TestNextWithOneBegunIsItsOwn(t *testing.T) {
	p := pairOf(t, 4, 100)
	p.put(2, "abcdef")
	p.comes(1, "2(a")
	for _, stream := range []uint16{3, 0, 1, 2} {
		p.put(stream, "xy")
		if s, left, ok := p.next(); s != 2 || left != 5 || !ok {
			t.Errorf("Next = %d, %d, %v", s, left, ok)
		}
	}
	p.free(1)
	p.comes(4, "2bcde")
	p.loose(3, "z")
	p.comes(4, "2f)", "3(xy)", "0(xy)", "1(xy)", "2(xy)", "3(z)", "none")
}

func TestNextGoesRoundAndRound(t *testing.T) {
	p := pairOf(t, 5, 100)
	for round := range 3 {
		for _, stream := range []uint16{3, 0, 4} { // 1 and 2 have none
			p.put(stream, strings.Repeat("x", round+1))
		}
	}
	p.comes(9, "0(x)", "3(x)", "4(x)", "0(xx)", "3(xx)", "4(xx)", "0(xxx)")
	p.put(2, "b")
	p.put(1, "a")
	p.put(0, "o")
	p.comes(9, "1(a)", "2(b)", "3(xxx)", "4(xxx)", "0(o)", "none")
	p.put(4, "p")
	p.put(0, "q")
	p.put(1, "r")
	p.comes(9, "1(r)", "4(p)", "0(q)", "none")
}

func TestNextBehindTheLastOneBegun(t *testing.T) {
	for last := range 5 {
		p := pairOf(t, 5, 100)
		p.put(uint16(last), "ab")
		p.comes(1, strconv.Itoa(last)+"(a", strconv.Itoa(last)+"b)", "none")
		for stream := range 5 {
			p.put(uint16(stream), "c")
		}
		for step := range 5 {
			p.comes(1, strconv.Itoa((last+1+step)%5)+"(c)")
		}
		p.comes(1, "none")
	}
}

func TestNextWithOneStream(t *testing.T) {
	p := pairOf(t, 1, 100)
	for _, text := range []string{"ab", "c", "def"} {
		p.put(0, text)
	}
	p.loose(0, "g")
	p.comes(2, "0(ab)", "0(c)", "0(de", "0f)", "0(g)", "none")
	p.put(0, "h")
	p.comes(2, "0(h)", "none")
}

func TestFirstMessageAheadOfItsTurnAndBehind(t *testing.T) {
	p := pairOf(t, 4, 100)
	p.put(0, "a")
	p.put(1, "b")
	p.put(1, "c")
	p.put(3, "d")
	p.comes(1, "0(a)", "1(b)")
	p.put(2, "e") // its turn comes
	p.put(0, "f") // its turn was
	p.comes(1, "2(e)", "3(d)")
	p.put(2, "g")
	p.comes(1, "0(f)", "1(c)", "2(g)", "none")
	p.put(2, "h")
	p.put(1, "i")
	p.put(3, "j")
	p.comes(1, "3(j)", "1(i)", "2(h)", "none")
}

// That a stream was begun last holds though it is empty, and though its message was unordered.
func TestLastBegunStaysBehindEmptyQueue(t *testing.T) {
	p := pairOf(t, 3, 100)
	p.loose(1, "ab")
	p.comes(1, "1(a", "1b)", "none", "none")
	p.free(2)
	p.put(0, "c")
	p.put(1, "d")
	p.put(2, "e")
	p.comes(1, "2(e)", "0(c)", "1(d)", "none")
}

func TestManyStreams(t *testing.T) {
	p := pairOf(t, 1024, 100000)
	r := rand.New(rand.NewSource(16))
	for _, stream := range r.Perm(1024) {
		p.put(uint16(stream), "abc")
	}
	q := p.queue
	for stream := range 1024 {
		for i, want := range []string{"(ab", "c)"} {
			if s, left, ok := q.Next(); int(s) != stream || left != 3-2*i || !ok {
				t.Fatalf("Next = %d, %d, %v, want %d", s, left, ok, stream)
			}
			if got, ok := q.Take(2); !ok || short(got) != strconv.Itoa(stream)+want || got.SSN != 0 {
				t.Fatalf("%+v, %v, want %d%s", got, ok, stream, want)
			}
		}
	}
	q.Push(1023, 0, false, 'x')
	q.Push(1022, 0, false, 'y')
	for _, want := range []string{"1022(y)", "1023(x)"} {
		if got, ok := q.Take(2); !ok || short(got) != want || got.SSN != 1 {
			t.Errorf("%+v, %v, want %s", got, ok, want)
		}
	}
}

func TestMessagesOfAStreamInOrder(t *testing.T) {
	p := pairOf(t, 2, 1000)
	r := rand.New(rand.NewSource(1))
	var want []string
	for i := range 60 {
		text := strconv.Itoa(i) + strings.Repeat("-", r.Intn(4))
		if r.Intn(2) == 0 {
			p.put(1, text)
		} else {
			p.loose(1, text)
		}
		want = append(want, "1("+text+")")
	}
	p.comes(100, want...)
}

// P16.3

func TestFreeAtEdges(t *testing.T) {
	for _, n := range []int{math.MinInt, -1 << 32, -2, -1, 0, 1, 2, 3, 4, 5, 6, 1 << 32, 1<<32 + 1, math.MaxInt} {
		p := pairOf(t, 2, 10)
		p.put(0, "abcd")
		p.put(1, "efg")
		p.comes(4, "0(abcd)")
		p.comes(1, "1(e")
		want := api.Errno(0)
		if n < 0 || n > 5 {
			want = 5
		}
		if e := p.free(n); e != want {
			t.Errorf("Free(%d) = %d, want %d", n, e, want)
		}
		p.look()
		if taken := p.queue.Taken(); want == 0 && taken != 5-n || want != 0 && taken != 5 || p.queue.Waiting() != 2 {
			t.Errorf("Free(%d): Taken %d, Waiting %d", n, taken, p.queue.Waiting())
		}
		p.drain(1)
	}
}

func TestFreeOfNothingTaken(t *testing.T) {
	p := pairOf(t, 2, 10)
	p.free(0)
	p.free(1)
	p.put(0, "abc") // waiting bytes are not freed
	for _, n := range []int{1, 2, 3, -1, 0} {
		p.free(n)
		p.look()
	}
	p.comes(2, "0(ab")
	p.free(3)
	p.free(2)
	p.free(1)
	p.look()
	p.drain(1)
}

func TestFreeWithinAMessage(t *testing.T) {
	p := pairOf(t, 2, 4)
	p.put(1, "abcd")
	for _, want := range []string{"1(a", "1b", "1c"} {
		p.comes(1, want)
		p.free(1)
		p.put(0, "x")
		p.look()
	}
	p.comes(1, "1d)", "0(x)", "0(x)", "0(x)", "none")
	if p.queue.Held() != 4 || p.queue.Taken() != 4 {
		t.Errorf("Held %d, Taken %d", p.queue.Held(), p.queue.Taken())
	}
}

// P16.4

func TestCount(t *testing.T) {
	p := pairOf(t, 3, 100)
	counts := func(want ...int) {
		t.Helper()
		for stream, n := range want {
			if got := p.count(uint16(stream)); got != n {
				t.Errorf("Count(%d) = %d, want %d", stream, got, n)
			}
		}
	}
	counts(0, 0, 0, 0)
	p.put(1, "abc")
	p.loose(1, "de")
	p.put(1, "f")
	p.put(0, "g")
	counts(1, 3, 0, 0)
	p.comes(9, "0(g)")
	counts(0, 3, 0, 0)
	p.comes(1, "1(a") // begun: it still has bytes
	counts(0, 3, 0, 0)
	p.comes(1, "1b")
	counts(0, 3, 0, 0)
	p.comes(1, "1c)") // its last piece was taken
	counts(0, 2, 0, 0)
	p.free(2)
	counts(0, 2, 0, 0)
	p.comes(2, "1(de)", "1(f)")
	counts(0, 0, 0, 0)
	for _, stream := range []uint16{3, 4, 1023, 1024, 32768, 65535} {
		if n := p.queue.Count(stream); n != 0 {
			t.Errorf("Count(%d) = %d", stream, n)
		}
	}
}

func TestNextOfEmpty(t *testing.T) {
	p := pairOf(t, 3, 10)
	empty := func() {
		t.Helper()
		if stream, left, ok := p.queue.Next(); stream != 0 || left != 0 || ok {
			t.Errorf("Next = %d, %d, %v", stream, left, ok)
		}
	}
	empty()
	p.put(2, "ab")
	if stream, left, ok := p.queue.Next(); stream != 2 || left != 2 || !ok {
		t.Errorf("Next = %d, %d, %v", stream, left, ok)
	}
	p.comes(1, "2(a")
	if stream, left, ok := p.queue.Next(); stream != 2 || left != 1 || !ok {
		t.Errorf("Next = %d, %d, %v", stream, left, ok)
	}
	p.comes(1, "2b)")
	empty()
	p.free(2)
	empty()
}

func TestLookingChangesNothing(t *testing.T) {
	looked, plain := several(t), several(t)
	for range 20 {
		looked.look()
		for range 50 {
			looked.queue.Next()
			looked.queue.Count(1)
			looked.queue.Count(9)
			looked.queue.Held()
			looked.queue.Waiting()
			looked.queue.Taken()
		}
		a, okA := looked.queue.Take(1)
		b, okB := plain.queue.Take(1)
		if okA != okB || !samePart(a, b) {
			t.Errorf("%+v, %v and %+v, %v", a, okA, b, okB)
		}
		looked.model.take(1)
	}
}

// Memory

func TestWhatIsPushedIsNeitherChangedNorKept(t *testing.T) {
	q := made(t, 1, 100)
	room := []byte("abcdefgh----")
	data := room[2:5]
	for range 3 {
		q.Push(0, 0, false, data...)
	}
	if string(room) != "abcdefgh----" {
		t.Errorf("it is %q now", room)
	}
	first, _ := q.Take(2)
	for i := range room {
		room[i] = '?'
	}
	var texts []string
	for p, ok := first, true; ok; p, ok = q.Take(2) {
		texts = append(texts, short(p))
	}
	if want := []string{"0(cd", "0e)", "0(cd", "0e)", "0(cd", "0e)"}; !slices.Equal(texts, want) {
		t.Errorf("%v, want %v", texts, want)
	}
	if string(room) != "????????????" {
		t.Errorf("it is %q now", room)
	}
}

func TestPiecesAreTheCallersOwn(t *testing.T) {
	q := made(t, 2, 100)
	q.Push(0, 0, false, []byte("abcdefgh")...)
	q.Push(1, 0, false, []byte("ijkl")...)
	q.Push(1, 0, false, []byte("mn")...)
	var parts []api.Part
	for p, ok := q.Take(2); ok; p, ok = q.Take(2) {
		p.Data = append(p.Data, "????????"...) // behind it lies neither another piece nor what is left
		p.Data = p.Data[:2]
		parts = append(parts, p)
	}
	for i, want := range []string{"ab", "cd", "ef", "gh", "ij", "kl", "mn"} {
		if string(parts[i].Data) != want {
			t.Errorf("piece %d is %q, want %q", i, parts[i].Data, want)
		}
		spoil(parts[i].Data)
	}
	q.Push(0, 0, false, []byte("op")...)
	a, _ := q.Take(1)
	a.Data[0] = '?'
	a.Stream, a.SSN, a.Begin, a.End = 9, 9, false, true
	if b, ok := q.Take(1); !ok || short(b) != "0p)" || b.SSN != 1 {
		t.Errorf("%+v, %v", b, ok)
	}
}

func TestTwoQueuesKnowNothingOfOneAnother(t *testing.T) {
	r := rand.New(rand.NewSource(4))
	pairs := []*pair{pairOf(t, 3, 40), pairOf(t, 3, 40), pairOf(t, 1, 40)}
	for range 600 {
		drawnCall(pairs[r.Intn(len(pairs))], r, 6)
		for _, p := range pairs {
			p.look()
		}
	}
	for _, p := range pairs {
		p.drain(3)
	}
}

// Drawn rows of calls

func drawnText(r *rand.Rand, most int) []byte {
	b := make([]byte, r.Intn(most+1))
	r.Read(b)
	return b
}

// drawnCall does one thing, now and then with a number that may not be.
func drawnCall(p *pair, r *rand.Rand, most int) {
	p.t.Helper()
	switch r.Intn(8) {
	case 0, 1, 2:
		p.push(uint16(r.Intn(p.model.streams+1)), r.Uint32(), r.Intn(3) == 0, drawnText(r, most))
	case 3, 4, 5:
		p.take(r.Intn(most+3) - 1)
	case 6:
		p.free(r.Intn(2*most+3) - 1)
	case 7:
		p.free(p.queue.Taken() - r.Intn(3) + 1)
	}
}

func TestAgainstModel(t *testing.T) {
	for seed := range 60 {
		r := rand.New(rand.NewSource(int64(seed)))
		most := []int{1, 2, 7, 30}[r.Intn(4)]
		p := pairOf(t, []int{1, 2, 3, 5, 9}[r.Intn(5)], 1+r.Intn(10*most))
		for range 400 {
			drawnCall(p, r, most)
			p.look()
		}
		p.allWhole()
		p.drain(1 + r.Intn(most+1))
		p.allWhole()
	}
}

// filled is a pair with much room, whose streams have many messages of drawn sizes.
func filled(t *testing.T, r *rand.Rand) *pair {
	t.Helper()
	p := pairOf(t, 1+r.Intn(6), maxWindow)
	most := []int{1, 5, 40, 3000}[r.Intn(4)]
	for range 50 {
		p.push(uint16(r.Intn(p.model.streams)), r.Uint32(), r.Intn(3) == 0, append(drawnText(r, most), 1))
	}
	return p
}

// allWhole holds P16.5 of all pieces that were taken so far, by the pieces and what was pushed alone.
func (p *pair) allWhole() {
	p.t.Helper()
	for stream := range p.model.streams {
		p.whole(uint16(stream))
	}
}

// whole puts a stream's pieces together from Begin to End: the messages that were pushed there, in order.
func (p *pair) whole(stream uint16) {
	p.t.Helper()
	var sent [][]byte
	for _, m := range p.model.list {
		if m.Stream == stream {
			sent = append(sent, m.Data)
		}
	}
	open, text := false, []byte(nil)
	for i, part := range p.parts {
		if part.Stream != stream {
			continue
		}
		if part.Begin == open || len(part.Data) == 0 {
			p.t.Fatalf("piece %d has %d bytes, Begin %v", i, len(part.Data), part.Begin)
		}
		text, open = append(text, part.Data...), !part.End
		if part.End {
			if len(sent) == 0 || !bytes.Equal(text, sent[0]) {
				p.t.Fatalf("stream %d: a message that was not sent in this place ends with piece %d", stream, i)
			}
			sent, text = sent[1:], nil
		}
	}
	if open && !bytes.HasPrefix(sent[0], text) {
		p.t.Fatalf("stream %d: the last message is another one", stream)
	}
}

func TestWhole(t *testing.T) {
	for seed := range 80 {
		r := rand.New(rand.NewSource(int64(seed)))
		p := filled(t, r)
		n := []int{1, 2, 100, 1484, 65536, math.MaxInt}[r.Intn(6)]
		if n < 3 {
			n = max(n, p.queue.Waiting()/300)
		}
		for _, ok := p.take(n); ok; _, ok = p.take(n) {
			p.bytes()
		}
		p.allWhole()
		if p.queue.Waiting() != 0 {
			t.Errorf("%d bytes wait", p.queue.Waiting())
		}
	}
}

func TestWholeWithPushesBetween(t *testing.T) {
	for seed := range 40 {
		r := rand.New(rand.NewSource(int64(seed)))
		p := filled(t, r)
		for range 200 {
			p.take(1 + r.Intn(100))
			if r.Intn(3) == 0 {
				p.push(uint16(r.Intn(p.model.streams)), r.Uint32(), r.Intn(2) == 0, append(drawnText(r, 90), 1))
			}
		}
		p.allWhole()
	}
}

// TestFair counts by Count and pieces alone: of each stream which others had a message all the time since its last one was begun, and were not begun since.
func TestFair(t *testing.T) {
	for seed := range 60 {
		r := rand.New(rand.NewSource(int64(seed)))
		streams := 2 + r.Intn(6)
		q := made(t, streams, maxWindow)
		passed := make([][]bool, streams) // passed[a][b]: b had a message all the time since a was begun, and none of b's was begun
		for a := range passed {
			passed[a] = make([]bool, streams)
		}
		for range 1500 {
			if r.Intn(5) < 2 {
				q.Push(uint16(r.Intn(streams)), 0, r.Intn(2) == 0, append(drawnText(r, 4), 1)...)
				continue
			}
			p, ok := q.Take(1 + r.Intn(3))
			if !ok {
				continue
			}
			if p.Begin {
				a := int(p.Stream)
				for b, was := range passed[a] {
					if was && b != a {
						t.Fatalf("seed %d: stream %d is begun again, and stream %d was not", seed, a, b)
					}
				}
				for b := range streams {
					passed[a][b] = q.Count(uint16(b)) > 0
					passed[b][a] = false
				}
			}
			for a := range streams {
				for b := range streams {
					passed[a][b] = passed[a][b] && q.Count(uint16(b)) > 0
				}
			}
		}
	}
}

func TestBounded(t *testing.T) {
	for _, limit := range []int{1, 2, 5, 17, 100} {
		r := rand.New(rand.NewSource(int64(limit)))
		q := made(t, 3, limit)
		full := 0
		for range 20000 {
			switch r.Intn(4) {
			case 0, 1:
				q.Push(uint16(r.Intn(3)), 0, r.Intn(2) == 0, drawnText(r, 6)...)
			case 2:
				q.Take(1 + r.Intn(5))
			case 3:
				q.Free(r.Intn(4))
			}
			if q.Held() > limit || q.Held() < 0 || q.Held() != q.Waiting()+q.Taken() {
				t.Fatalf("Held, Waiting, Taken = %d, %d, %d with a limit of %d", q.Held(), q.Waiting(), q.Taken(), limit)
			}
			if q.Held() == limit {
				full++
			}
		}
		if full == 0 {
			t.Errorf("the limit of %d was never reached", limit)
		}
	}
}

// TestAnyCalls draws from the edges of all arguments: no call panics, and the queue is as the model.
func TestAnyCalls(t *testing.T) {
	ints := []int{math.MinInt, -65536, -1, 0, 1, 2, 3, 65535, 65536, 65537, maxWindow, 1<<32 + 1, math.MaxInt}
	for seed := range 30 {
		r := rand.New(rand.NewSource(int64(seed)))
		p := pairOf(t, []int{1, 3, 1024}[r.Intn(3)], []int{1, 65536, 200000, maxWindow}[r.Intn(4)])
		for range 150 {
			n := ints[r.Intn(len(ints))]
			switch r.Intn(3) {
			case 0:
				p.push(uint16([]int{0, 1, 2, 3, 1023, 1024, 65535}[r.Intn(7)]), r.Uint32(), r.Intn(2) == 0, plain([]int{0, 1, 2, 3, 65535, 65536, 65537}[r.Intn(7)]))
			case 1:
				p.take(n)
			case 2:
				p.free(n)
			}
			p.look()
		}
		p.drain(50000)
	}
}
