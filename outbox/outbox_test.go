package outbox

import (
	"math"
	"math/rand"
	"reflect"
	"testing"

	"ropewalk/api"
)

const top = 1<<32 - 1

// wrongPaths are none of a box with so many.
func wrongPaths(paths int) []int {
	return []int{math.MinInt, math.MinInt32, -8, -1, paths, paths + 1, 1 << 32, math.MaxInt}
}

// wrongTimes are none.
func wrongTimes() []int {
	return []int{math.MinInt, -maxTime, -2, -1, maxTime + 1, maxTime + 2, math.MaxInt}
}

// several is a pair of three paths with chunks of every state: 11 and 12 freed up to, 13 to 20 kept.
func several(t *testing.T) *pair {
	t.Helper()
	p := pairOf(t, 11, 3)
	p.puts(5, 0, 1, 0, 1, 2, 0, 0, 1, 2, 0)
	p.takes(mixed(12, gaps(2, 2), gaps(4, 4)), 9)
	p.timeout(2)
	p.is("13F0.1 14A1 15M2 16X0 17F0 18F1 19M2 20F0")
	return p
}

func TestNumbersOfErrorsAndLimits(t *testing.T) {
	if api.OK != 0 || api.ErrArg != 1 || api.ErrMany != 3 || api.ErrNil != 4 || api.ErrPath != 90 {
		t.Error("another number of an error")
	}
	if api.ErrOld != 170 || api.ErrFuture != 171 || api.ErrReport != 172 {
		t.Error("another number of an error of reports")
	}
	if api.MaxPaths != maxPaths || api.MaxTime != maxTime || api.MaxMessage != maxMessage || api.MaxInFlight != maxInFlight || api.Quick != 3 {
		t.Error("another limit")
	}
	if api.OutFlying != flying || api.OutMarked != marked || api.OutAcked != acked || api.OutFreed != freed {
		t.Error("another state")
	}
}

func TestExample1(t *testing.T) {
	p := pairOf(t, 1, 1)
	p.puts(5, 0, 0, 0, 0)
	p.comes(sack(1, 2, 3), 9, api.Report{Paths: []api.Acked{{Bytes: 30, Moved: true, Trip: 4}}, Free: 10})
	p.is("2F0.1 3A0 4A0")
	for range 2 {
		p.comes(sack(1, 2, 3), 9, none(1))
		p.is("2F0.1 3A0 4A0")
	}
}

func TestExample2(t *testing.T) {
	p := pairOf(t, 1, 2)
	p.puts(5, 0, 1)
	p.comes(sack(0, 2, 2), 9, api.Report{Paths: []api.Acked{{Trip: -1}, {Bytes: 10, Moved: true, Trip: 4}}})
	p.is("1F0 2A1")
}

// A box that nobody made

func TestUnmadeBox(t *testing.T) {
	var nobody *Box
	for _, b := range []*Box{nobody, {}, new(Box)} {
		for range 2 { // the calls change nothing: it is as it was
			for _, path := range []int{math.MinInt, -1, 0, 1, 7, 8, math.MaxInt} {
				unmadePath(t, b, path)
			}
			for _, c := range []api.Chunk{{}, sack(0), sack(top), sack(1), sack(0, 0, 1), sack(0, 2, 1), firm(0, 1, 1), {Kind: 255}} {
				for _, now := range []int{-1, 0, maxTime, maxTime + 1} {
					if r, e := b.Report(c, now); e != 4 || !sameReport(r, api.Report{}) {
						t.Errorf("Report = %+v, %d", r, e)
					}
				}
			}
			if n, o, ok := b.Marked(); n != 0 || ok || !sameOut(o, api.Out{}) {
				t.Errorf("Marked = %d, %+v, %v", n, o, ok)
			}
			if b.Total() != 0 || b.Cum() != 0 || b.Next() != 0 || b.Len() != 0 || len(b.All()) != 0 {
				t.Error("a box that nobody made tells something")
			}
		}
		if b != nil && !reflect.DeepEqual(b, &Box{}) {
			t.Error("a box that nobody made has changed")
		}
	}
}

func unmadePath(t *testing.T, b *Box, path int) {
	t.Helper()
	for _, now := range []int{math.MinInt, -1, 0, maxTime, maxTime + 1} {
		for _, n := range []int{0, 1, 65537} {
			part := api.Part{Message: api.Message{Data: make([]byte, n)}}
			if tsn, e := b.Put(path, part, now); tsn != 0 || e != 4 {
				t.Errorf("Put(%d, %d) = %d, %d", path, now, tsn, e)
			}
		}
		if o, ok, e := b.Again(path, now); e != 4 || ok || !sameOut(o, api.Out{}) {
			t.Errorf("Again(%d, %d) = %+v, %v, %d", path, now, o, ok, e)
		}
	}
	if n, e := b.Timeout(path); n != 0 || e != 4 {
		t.Errorf("Timeout(%d) = %d, %d", path, n, e)
	}
	if o, ok := b.First(path); ok || !sameOut(o, api.Out{}) || b.Flying(path) != 0 {
		t.Errorf("First(%d) = %+v, %v", path, o, ok)
	}
}

// P17.1

func TestNew(t *testing.T) {
	for _, first := range []uint32{0, 1, 2, 1<<31 - 1, 1 << 31, top - 1, top} {
		for _, paths := range []int{math.MinInt, -8, -1, 0, 1, 2, 7, 8, 9, 1 << 32, 1<<32 + 1, math.MaxInt} {
			b, e := New(first, paths)
			if paths < 1 || paths > 8 {
				if b != nil || e != 1 {
					t.Errorf("New(%d, %d) = %v, %d, want none, 1", first, paths, b, e)
				}
				continue
			}
			if b == nil || e != 0 {
				t.Fatalf("New(%d, %d) = %v, %d", first, paths, b, e)
			}
			if b.Next() != first || b.Cum() != first-1 || b.Len() != 0 || len(b.All()) != 0 || b.Total() != 0 {
				t.Errorf("New(%d, %d): Next %d, Cum %d, Len %d", first, paths, b.Next(), b.Cum(), b.Len())
			}
			p := &pair{t: t, box: b, model: modelOf(first, paths)}
			p.look()
			p.puts(0, 0, paths-1)
			p.look()
		}
	}
}

// P17.2

func TestPutFields(t *testing.T) {
	p := pairOf(t, 7, 8)
	for path := range 8 {
		part := p.part(3 + path)
		if tsn, e := p.box.Put(path, part, 100+path); tsn != uint32(7+path) || e != 0 {
			t.Fatalf("Put = %d, %d", tsn, e)
		}
		p.model.doPut(path, part, 100+path)
		p.look()
		list := p.box.All()
		want := api.Out{TSN: uint32(7 + path), Path: path, Times: 1, Sent: 100 + path, State: flying, Part: part}
		if got := list[len(list)-1]; len(list) != path+1 || !sameOut(got, want) {
			t.Errorf("All = %+v, want %+v", got, want)
		}
		if p.box.Next() != uint32(8+path) || p.box.Cum() != 6 || p.box.Len() != path+1 {
			t.Errorf("Next, Cum, Len = %d, %d, %d", p.box.Next(), p.box.Cum(), p.box.Len())
		}
	}
}

func TestPutAtEdges(t *testing.T) {
	for _, paths := range []int{1, 2, 7, 8} {
		for _, path := range append(wrongPaths(paths), 0, paths-1) {
			p := pairOf(t, 1, paths)
			want := api.Errno(0)
			if path != 0 && path != paths-1 {
				want = 90
			}
			if e := p.put(path, p.part(1), 0); e != want {
				t.Errorf("Put(%d) of %d paths = %d, want %d", path, paths, e, want)
			}
			p.look()
		}
	}
	for _, now := range append(wrongTimes(), 0, 1, maxTime-1, maxTime) {
		p := pairOf(t, 1, 2)
		want := api.Errno(0)
		if now < 0 || now > maxTime {
			want = 1
		}
		if e := p.put(1, p.part(1), now); e != want {
			t.Errorf("Put at %d = %d, want %d", now, e, want)
		}
		p.look()
	}
	for n, want := range map[int]api.Errno{0: 1, 1: 0, 2: 0, 65535: 0, 65536: 0, 65537: 1, 1 << 17: 1} {
		p := pairOf(t, 1, 2)
		if e := p.put(1, p.part(n), 3); e != want {
			t.Errorf("Put of %d bytes = %d, want %d", n, e, want)
		}
		p.look()
	}
}

func TestPutWithoutData(t *testing.T) {
	p := several(t)
	for _, data := range [][]byte{nil, {}, make([]byte, 4)[:0]} {
		part := p.part(0)
		part.Data = data
		if e := p.put(0, part, 9); e != 1 {
			t.Errorf("Put of no data = %d", e)
		}
		p.look()
	}
}

func TestPutErrorsInOrder(t *testing.T) {
	p := several(t)
	for _, path := range wrongPaths(3) {
		for _, now := range append(wrongTimes(), 5) {
			for _, n := range []int{0, 1, 65537} {
				if e := p.put(path, p.part(n), now); e != 90 {
					t.Errorf("Put(%d, %d bytes, %d) = %d", path, n, now, e)
				}
			}
		}
	}
	for _, now := range wrongTimes() {
		for _, n := range []int{0, 1, 65537} {
			if e := p.put(1, p.part(n), now); e != 1 {
				t.Errorf("Put(%d bytes, %d) = %d", n, now, e)
			}
		}
	}
	p.is("13F0.1 14A1 15M2 16X0 17F0 18F1 19M2 20F0")
	p.puts(9, 1)
	p.is("13F0.1 14A1 15M2 16X0 17F0 18F1 19M2 20F0 21F1")
}

func TestTSNsGoRound(t *testing.T) {
	p := pairOf(t, top-2, 2)
	p.puts(5, 0, 1, 0, 1, 0, 1)
	p.is("4294967293F0 4294967294F1 4294967295F0 0F1 1F0 2F1")
	if p.box.Next() != 3 || p.box.Cum() != top-3 {
		t.Errorf("Next, Cum = %d, %d", p.box.Next(), p.box.Cum())
	}
	p.comes(sack(top-2, 3, 4), 9, api.Report{Paths: []api.Acked{{Bytes: 20, Moved: true, Trip: 4}, {Bytes: 10, Trip: 4}}, Free: 10})
	p.is("4294967294F1.1 4294967295F0.1 0A1 1A0 2F1")
	p.comes(sack(0, 1, 1), 12, api.Report{Paths: []api.Acked{{Bytes: 10, Moved: true, Trip: 7}, {Bytes: 10, Moved: true, Trip: 7}}, Free: 30})
	p.is("1A0 2F1")
	p.takes(sack(2), 12)
	p.is("")
	p.puts(20, 1)
	p.is("3F1")
}

// full is a box that keeps as many chunks as may be, on two paths.
func full(t *testing.T, first uint32) *Box {
	t.Helper()
	b := made(t, first, 2)
	for i := range maxInFlight {
		tsn, e := b.Put(i%2, api.Part{Message: api.Message{Data: []byte{byte(i)}}}, 5)
		if tsn != first+uint32(i) || e != 0 {
			t.Fatalf("Put = %d, %d", tsn, e)
		}
	}
	return b
}

func TestMaxInFlight(t *testing.T) {
	one := api.Part{Message: api.Message{Data: []byte{1}}}
	for _, first := range []uint32{1, top - 1000} {
		b := full(t, first)
		refused := func() {
			t.Helper()
			next := b.Next()
			for range 2 {
				if tsn, e := b.Put(1, one, 5); tsn != 0 || e != 3 || b.Len() != maxInFlight || b.Next() != next {
					t.Fatalf("Put = %d, %d, Len %d, Next %d", tsn, e, b.Len(), b.Next())
				}
			}
			if _, e := b.Put(2, one, 5); e != 90 {
				t.Errorf("Put = %d", e)
			}
			for _, e := range []api.Errno{second(b.Put(1, one, -1)), second(b.Put(0, api.Part{}, 5))} {
				if e != 1 {
					t.Errorf("Put = %d", e)
				}
			}
		}
		refused()
		if b.Total() != maxInFlight || b.Flying(0) != maxInFlight/2 {
			t.Errorf("Total, Flying = %d, %d", b.Total(), b.Flying(0))
		}
		if r, e := b.Report(firm(first-1, 2, 3), 9); e != 0 || r.Free != 2 { // Freed ones are kept
			t.Fatalf("Report = %+v, %d", r, e)
		}
		refused()
		if r, e := b.Report(sack(first+1, 2, 32766), 9); e != 0 || r.Free != 1 || r.Paths[0].Bytes+r.Paths[1].Bytes != 32766 {
			t.Fatalf("Report = %+v, %d", r, e)
		}
		if b.Len() != maxInFlight-2 || b.Cum() != first+1 {
			t.Errorf("Len, Cum = %d, %d", b.Len(), b.Cum())
		}
		for i := range uint32(2) {
			if tsn, e := b.Put(0, one, 5); tsn != first+maxInFlight+i || e != 0 {
				t.Fatalf("Put = %d, %d", tsn, e)
			}
		}
		refused()
	}
}

func second[A any](_ A, e api.Errno) api.Errno { return e }

func TestAllOfFullBoxAgain(t *testing.T) {
	b := full(t, top-100)
	for path := range 2 {
		if n, e := b.Timeout(path); n != maxInFlight/2 || e != 0 {
			t.Fatalf("Timeout = %d, %d", n, e)
		}
	}
	for i := range maxInFlight {
		if o, ok, e := b.Again(1, 6); o.TSN != top-100+uint32(i) || !ok || e != 0 || o.Part.Data[0] != byte(i) {
			t.Fatalf("Again = %+v, %v, %d", o, ok, e)
		}
	}
	if n, _, ok := b.Marked(); n != 0 || ok || b.Flying(1) != maxInFlight || b.Flying(0) != 0 {
		t.Errorf("Marked = %d, %v", n, ok)
	}
	if r, e := b.Report(sack(b.Next()-1), 9); e != 0 || r.Free != maxInFlight || r.Paths[1] != (api.Acked{Bytes: maxInFlight, Moved: true, Trip: -1}) || b.Len() != 0 {
		t.Errorf("Report = %+v, %d", r, e)
	}
}

// P17.3

func TestAgainAtEdges(t *testing.T) {
	for _, path := range append(wrongPaths(3), 0, 1, 2) {
		for _, now := range append(wrongTimes(), 0, 1, maxTime) {
			p := several(t)
			want := api.Errno(0)
			if path < 0 || path > 2 {
				want = 90
			} else if !okTime(now) {
				want = 1
			}
			o, ok, e := p.again(path, now)
			if e != want || ok != (want == 0) {
				t.Errorf("Again(%d, %d) = %v, %d, want %d", path, now, ok, e, want)
			}
			if ok && (o.TSN != 15 || o.Path != path || o.Sent != now || o.Times != 2 || o.State != flying) {
				t.Errorf("Again(%d, %d) = %+v", path, now, o)
			}
			p.look()
		}
	}
}

func TestAgainOfNone(t *testing.T) {
	p := pairOf(t, 1, 2)
	none := func() {
		t.Helper()
		if o, ok, e := p.again(1, 9); ok || e != 0 || !sameOut(o, api.Out{}) {
			t.Errorf("Again = %+v, %v, %d", o, ok, e)
		}
		p.again(2, 9)
		p.again(0, -1)
		p.look()
	}
	none()
	p.puts(5, 0, 1, 0, 1)
	none()
	p.takes(mixed(1, gaps(1, 1), gaps(2, 2)), 9)
	p.is("2A1 3X0 4F1")
	none()
	p.is("2A1 3X0 4F1")
}

func TestAgainIsByTSNs(t *testing.T) {
	for _, first := range []uint32{1, top - 1, top - 2, top - 4} {
		p := pairOf(t, first, 3)
		p.puts(5, 2, 0, 1, 0, 2, 1)
		p.timeout(1)
		p.timeout(0)
		for _, i := range []uint32{1, 2, 3, 5} {
			if _, o, ok := p.box.Marked(); o.TSN != first+i || !ok {
				t.Errorf("Marked = %+v, want %d", o, first+i)
			}
			if o, ok, e := p.again(2, 20); o.TSN != first+i || !ok || e != 0 {
				t.Errorf("Again = %+v, want %d", o, first+i)
			}
			p.look()
		}
		p.timeout(2) // now all of them
		for i := range uint32(6) {
			if o, _, _ := p.again(int(i%3), 30); o.TSN != first+i {
				t.Errorf("Again = %+v, want %d", o, first+i)
			}
		}
		p.look()
	}
}

func TestAgainSetsAllAnew(t *testing.T) {
	p := pairOf(t, 1, 2)
	p.puts(5, 0, 0, 0, 0, 0)
	for i := range uint16(3) {
		p.takes(sack(0, 2, 2+i), 9)
	}
	p.is("1M0q 2A0 3A0 4A0 5F0")
	o, ok, e := p.again(1, 50)
	if !ok || e != 0 || o.Path != 1 || o.Times != 2 || o.Sent != 50 || o.Missing != 0 || !o.Quick || o.State != flying {
		t.Errorf("Again = %+v, %v, %d", o, ok, e)
	}
	p.is("1F1x2q 2A0 3A0 4A0 5F0")
	p.timeout(1)
	p.is("1M1x2q 2A0 3A0 4A0 5F0")
	p.again(0, 40) // an earlier time may be
	p.is("1F0x3q 2A0 3A0 4A0 5F0")
	if o, _ := p.box.First(0); o.Sent != 40 {
		t.Errorf("First = %+v", o)
	}
}

func TestTimeoutAtEdges(t *testing.T) {
	for _, path := range append(wrongPaths(3), 0, 1, 2) {
		p := several(t)
		want := api.Errno(0)
		if path < 0 || path > 2 {
			want = 90
		}
		if n, e := p.timeout(path); e != want || want != 0 && n != 0 {
			t.Errorf("Timeout(%d) = %d, %d, want %d", path, n, e, want)
		}
		p.look()
	}
}

func TestTimeoutMarksItsOwn(t *testing.T) {
	for path, want := range []struct {
		n    int
		kept string
	}{
		{30, "13M0 14A1 15M2 16X0 17M0 18F1 19M2 20M0"},
		{10, "13F0.1 14A1 15M2 16X0 17F0 18M1 19M2 20F0"},
		{0, "13F0.1 14A1 15M2 16X0 17F0 18F1 19M2 20F0"},
	} {
		p := several(t)
		for i := range 2 { // the second one finds nothing
			if n, e := p.timeout(path); n != want.n*(1-i) || e != 0 {
				t.Errorf("Timeout(%d) = %d, %d", path, n, e)
			}
			p.is(want.kept)
			if p.box.Flying(path) != 0 {
				t.Errorf("Flying(%d) = %d", path, p.box.Flying(path))
			}
		}
	}
}

func TestTimeoutCountsBytes(t *testing.T) {
	p := pairOf(t, 1, 2)
	for i, n := range []int{1, 65536, 10, 100, 1000} {
		p.put(i%2, p.part(n), 5)
	}
	if n, _ := p.timeout(0); n != 1011 {
		t.Errorf("Timeout = %d", n)
	}
	if n, o, ok := p.box.Marked(); n != 1011 || o.TSN != 1 || !ok {
		t.Errorf("Marked = %d, %+v", n, o)
	}
	if n, _ := p.timeout(1); n != 65636 || p.box.Total() != 0 {
		t.Errorf("Timeout = %d", n)
	}
	p.look()
}

// A chunk that is marked is its last path's still, till it is sent again: by the path of its last sending it is told.
func TestTimeoutOfPathOfLastSending(t *testing.T) {
	p := pairOf(t, 1, 2)
	p.puts(5, 0, 0)
	p.timeout(0)
	p.again(1, 6)
	if n, _ := p.timeout(0); n != 0 {
		t.Errorf("Timeout = %d", n)
	}
	p.is("1F1x2 2M0")
	if n, _ := p.timeout(1); n != 10 {
		t.Errorf("Timeout = %d", n)
	}
	p.is("1M1x2 2M0")
}

// P17.5

func TestLooks(t *testing.T) {
	p := several(t)
	for path, want := range map[int]int{-1: 0, 0: 30, 1: 10, 2: 0, 3: 0} {
		if n := p.box.Flying(path); n != want {
			t.Errorf("Flying(%d) = %d, want %d", path, n, want)
		}
	}
	for path, want := range map[int]uint32{0: 13, 1: 18} {
		if o, ok := p.box.First(path); !ok || o.TSN != want || o.State != flying {
			t.Errorf("First(%d) = %+v, %v", path, o, ok)
		}
	}
	for _, path := range append(wrongPaths(3), 2) {
		if o, ok := p.box.First(path); ok || !sameOut(o, api.Out{}) {
			t.Errorf("First(%d) = %+v, %v", path, o, ok)
		}
	}
	if n, o, ok := p.box.Marked(); n != 20 || o.TSN != 15 || !ok || p.box.Total() != 40 {
		t.Errorf("Marked = %d, %+v, %v", n, o, ok)
	}
	if p.box.Cum() != 12 || p.box.Next() != 21 || p.box.Len() != 8 {
		t.Errorf("Cum, Next, Len = %d, %d, %d", p.box.Cum(), p.box.Next(), p.box.Len())
	}
	p.timeout(0)
	if n, o, ok := p.box.Marked(); n != 50 || o.TSN != 13 || !ok || p.box.Total() != 10 {
		t.Errorf("Marked = %d, %+v, %v", n, o, ok)
	}
}

// Memory

func TestAnswersAreTheCallersOwn(t *testing.T) {
	b := made(t, 1, 1)
	data := []byte("abc")
	for range 3 {
		b.Put(0, api.Part{Message: api.Message{Data: data}}, 5)
	}
	spoil(data)
	b.Timeout(0)
	o1, _, _ := b.Again(0, 6)
	_, o2, _ := b.Marked()
	o3, _ := b.First(0)
	o4, _ := b.First(0)
	list, other := b.All(), b.All()
	want := func(o api.Out) {
		t.Helper()
		if string(o.Part.Data) != "abc" {
			t.Errorf("another text: %q", o.Part.Data)
		}
	}
	for _, o := range []api.Out{o1, o2, o3, o4, list[0], list[1], list[2], other[0], other[1], other[2]} {
		want(o)
		spoil(o.Part.Data)
	}
	for _, o := range b.All() {
		want(o)
	}
	for range 2 {
		o, _, _ := b.Again(0, 7)
		want(o)
		spoil(o.Part.Data)
	}
	r, _ := b.Report(sack(0, 2, 2), 9)
	r.Paths[0] = api.Acked{}
	clear(r.Paths[:cap(r.Paths)])
	for _, o := range b.All() {
		want(o)
	}
}

func TestBoxesKnowNothingOfOneAnother(t *testing.T) {
	p, q := several(t), several(t)
	r := pairOf(t, 11, 3)
	p.timeout(0)
	p.timeout(1)
	p.again(2, 30)
	p.takes(sack(20), 40)
	p.puts(50, 0, 0)
	q.is("13F0.1 14A1 15M2 16X0 17F0 18F1 19M2 20F0")
	r.is("")
	r.puts(5, 2)
	p.is("21F0 22F0")
	r.is("11F2")
	q.timeout(1)
	q.is("13F0.1 14A1 15M2 16X0 17F0 18M1 19M2 20F0")
}

// Drawn rows of calls

// drawn draws calls whose arguments may be, mostly.
type drawn struct {
	*pair
	*rand.Rand
	now  int
	last api.Chunk
}

func (d *drawn) path() int {
	if d.Intn(30) == 0 {
		list := wrongPaths(d.model.paths)
		return list[d.Intn(len(list))]
	}
	return d.Intn(d.model.paths)
}

func (d *drawn) time() int {
	switch d.Intn(30) {
	case 0:
		list := append(wrongTimes(), 0, maxTime)
		return list[d.Intn(len(list))]
	case 1, 2, 3: // time goes back: it may be
		return d.Intn(d.now + 1)
	}
	d.now += d.Intn(4)
	return d.now
}

func (d *drawn) blocks(up int) []api.Gap {
	var list []api.Gap
	left := d.box.Len() - up
	for range d.Intn(4) {
		start := 1 + d.Intn(max(left, 1))
		end := start + d.Intn(3)
		if d.Intn(12) > 0 {
			end = min(end, max(left, start))
		}
		if d.Intn(60) == 0 {
			start, end = d.Intn(3), d.Intn(3)
		}
		list = append(list, api.Gap{Start: uint16(start), End: uint16(end)})
	}
	return list
}

func (d *drawn) chunk() api.Chunk {
	if d.Intn(6) == 0 {
		return d.last
	}
	up := 0
	switch d.Intn(12) {
	case 0:
		up = d.Intn(d.box.Len() + 1)
	case 1, 2:
		up = d.Intn(min(d.box.Len(), 3) + 1)
	}
	c := api.Chunk{Kind: 3, TSN: d.box.Cum() + uint32(up), Gaps: d.blocks(up), NR: d.blocks(up)}
	if d.Intn(2) == 0 {
		c.Kind = 16
	}
	switch d.Intn(40) {
	case 0:
		c.Kind = api.ChunkKind(d.Intn(256))
	case 1:
		c.TSN += uint32(d.Intn(5)) - 2
	case 2:
		c.TSN += 1<<31 + uint32(d.Intn(5)) - 2
	}
	d.last = c
	return c
}

// step is one call; a report that goes comes once more, now and then, and must change nothing (P17.8).
func (d *drawn) step() {
	switch d.Intn(10) {
	case 0, 1, 2:
		n := 1 + d.Intn(20)
		if d.Intn(40) == 0 {
			n = []int{0, 65536, 65537}[d.Intn(3)]
		}
		d.put(d.path(), d.part(n), d.time())
	case 3, 4:
		d.again(d.path(), d.time())
	case 5:
		if d.Intn(3) == 0 {
			d.timeout(d.path())
		}
	default:
		c := d.chunk()
		if _, e := d.report(c, d.time()); e == 0 && d.Intn(3) == 0 {
			d.sameAgain(c)
		}
	}
	d.look()
}

func (d *drawn) sameAgain(c api.Chunk) {
	d.t.Helper()
	ahead := d.box.All()
	if r := d.takes(c, d.Intn(maxTime+1)); !sameReport(r, none(d.model.paths)) {
		d.t.Fatalf("Report(%+v) again = %+v", c, r)
	}
	behind := d.box.All()
	if !reflect.DeepEqual(ahead, behind) {
		d.t.Fatalf("Report(%+v) again: %+v was %+v", c, behind, ahead)
	}
}

func TestDrawnRuns(t *testing.T) {
	for seed := range int64(150) {
		r := rand.New(rand.NewSource(seed))
		first := r.Uint32()
		if seed%2 == 0 {
			first = -uint32(r.Intn(40))
		}
		d := &drawn{pair: pairOf(t, first, 1+r.Intn(maxPaths)), Rand: r, now: r.Intn(100)}
		if seed%3 == 0 { // so that chunks of one path are often many
			d.pair = pairOf(t, first, 1+r.Intn(2))
		}
		for range 150 {
			d.step()
		}
		d.takes(sack(d.box.Next()-1), 0)
		d.is("")
		if d.model.free != d.model.put {
			t.Errorf("%d bytes were put, %d freed", d.model.put, d.model.free)
		}
	}
}

func TestLongDrawnRun(t *testing.T) {
	r := rand.New(rand.NewSource(17))
	d := &drawn{pair: pairOf(t, top-500, 3), Rand: r}
	states := map[string]int{}
	for range 6000 {
		d.step()
		if d.box.Len() > 60 {
			d.takes(sack(d.box.Cum()+40), d.now)
		}
		for _, o := range d.box.All() {
			states[short(api.Out{State: o.State, Times: min(o.Times, 2), Missing: min(o.Missing, 3), Quick: o.Quick})]++
		}
	}
	for _, s := range []string{"0F0", "0F0.1", "0F0.2", "0F0x2", "0F0.2x2", "0M0", "0M0q", "0F0x2q", "0F0.3x2q", "0A0", "0X0", "0M0x2"} {
		if states[s] == 0 {
			t.Errorf("no chunk was ever %s: %v", s, states)
		}
	}
}

// Arguments at their edges, of which most may not be.
func TestNoCallPanics(t *testing.T) {
	r := rand.New(rand.NewSource(3))
	ints := []int{math.MinInt, math.MinInt32, -1, 0, 1, 2, 7, 8, 9, maxTime, maxTime + 1, 1 << 32, math.MaxInt}
	ends := []uint16{0, 1, 2, 3, 4, 32767, 32768, 65534, 65535}
	pick := func() int { return ints[r.Intn(len(ints))] }
	for round := range 300 {
		p := pairOf(t, []uint32{0, 1, 1 << 31, top}[round%4], 1+r.Intn(8))
		for range 40 {
			tsn := []uint32{p.box.Cum(), p.box.Next(), 0, 1 << 31, top}[r.Intn(5)] + uint32(r.Intn(3)) - 1 + uint32(r.Intn(2))<<31
			c := api.Chunk{Kind: []api.ChunkKind{3, 16, 0, 255}[r.Intn(4)], TSN: tsn}
			for range r.Intn(3) {
				c.Gaps = append(c.Gaps, api.Gap{Start: ends[r.Intn(9)], End: ends[r.Intn(9)]})
				c.NR = append(c.NR, api.Gap{Start: ends[r.Intn(9)], End: ends[r.Intn(9)]})
			}
			p.put(pick(), p.part([]int{0, 1, 2}[r.Intn(3)]), pick())
			p.report(c, pick())
			p.timeout(pick())
			p.again(pick(), pick())
		}
		p.look()
	}
}
