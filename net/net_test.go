package net

import (
	"bytes"
	"math"
	"math/rand"
	"reflect"
	"slices"
	"testing"

	"ropewalk/api"
)

// numbers are such as may be an end, a path or a place, and such as may not.
func numbers() []int {
	return []int{math.MinInt, math.MinInt32, -2, -1, 0, 1, 2, 3, 7, 8, 9, 1 << 32, 1<<32 + 1, math.MaxInt}
}

func goodEnd(end int) bool { return end == 0 || end == 1 }

// filled has a few packets on their way on each path, from both ends: sent ones, a forged one, one without bytes.
func filled(t *testing.T, paths int) *pair {
	t.Helper()
	p := pairOf(t, paths)
	for path := range paths {
		for end := range 2 {
			p.send(end, path, []byte{1, 2, 3, byte(end), byte(path)}, 10+path)
			p.forge(end, path, []byte("forged"), 20+path)
			p.send(end, path, nil, 30+path)
			p.send(end, path, []byte("last"), maxTime)
		}
	}
	return p
}

// crowd puts packets without bytes on an end's path till so many fly there; it goes by the network alone, as the model is slow.
func crowd(t *testing.T, n *Net, end, path, count int) {
	t.Helper()
	list, _ := n.Flying(end, path)
	for i := len(list); i < count; i++ {
		if _, e := n.Send(end, path, nil, i); e != 0 {
			t.Fatalf("Send of packet %d = %d", i, e)
		}
	}
}

func made(t *testing.T, paths int) *Net {
	t.Helper()
	return pairOf(t, paths).net
}

// tellsFlying holds a row against a list.
func tellsFlying(t *testing.T, n *Net, end, path int, want ...api.Flight) {
	t.Helper()
	if list, e := n.Flying(end, path); e != 0 || !slices.Equal(list, want) {
		t.Errorf("Flying(%d, %d) = %v, %d, want %v", end, path, list, e, want)
	}
}

// tellsTraffic holds an end's path's traffic against one.
func tellsTraffic(t *testing.T, n *Net, end, path int, want api.Traffic) {
	t.Helper()
	if x, e := n.Traffic(end, path); e != 0 || x != want {
		t.Errorf("Traffic(%d, %d) = %v, %d, want %v", end, path, x, e, want)
	}
}

func delivers(t *testing.T, n *Net, end, path, i int, want string) {
	t.Helper()
	if b, e := n.Deliver(end, path, i); e != 0 || string(b) != want {
		t.Errorf("Deliver(%d, %d, %d) = %q, %d, want %q", end, path, i, b, e, want)
	}
}

func puts(t *testing.T, id int, e api.Errno, want int) {
	t.Helper()
	if id != want || e != 0 {
		t.Errorf("number %d, %d, want %d", id, e, want)
	}
}

// refused holds that nothing but an error was answered.
func refused(t *testing.T, id int, e, want api.Errno) {
	t.Helper()
	if id != 0 || e != want {
		t.Errorf("%d, %d, want 0, %d", id, e, want)
	}
}

func TestErrorsAreTheirNumbers(t *testing.T) {
	if api.OK != 0 || api.ErrArg != 1 || api.ErrLong != 2 || api.ErrMany != 3 || api.ErrNil != 4 || api.ErrPath != 90 || api.ErrFlight != 91 || api.ErrByte != 92 {
		t.Error("another number")
	}
	if api.MaxPaths != 8 || api.MaxPacket != maxPacket || api.MaxFlying != maxFlying || api.MaxTime != maxTime {
		t.Error("another limit")
	}
}

func TestExamples(t *testing.T) {
	n := made(t, 1)
	id, e := n.Send(0, 0, []byte("a"), 5)
	puts(t, id, e, 0)
	id, e = n.Send(0, 0, []byte("b"), 6)
	puts(t, id, e, 1)
	delivers(t, n, 0, 0, 1, "b")
	tellsFlying(t, n, 0, 0, api.Flight{ID: 0, Sent: 5, Len: 1})
	if e := n.Down(0); e != 0 {
		t.Errorf("Down = %d", e)
	}
	id, e = n.Send(0, 0, []byte("c"), 7)
	puts(t, id, e, 2)
	tellsFlying(t, n, 0, 0)

	both := made(t, 1)
	both.Send(0, 0, []byte("a"), 5)
	both.Send(0, 0, []byte("b"), 6)
	both.Down(0)
	tellsTraffic(t, both, 0, 0, api.Traffic{Sent: 2, Lost: 2})
	id, e = both.Send(0, 0, []byte("c"), 7)
	puts(t, id, e, 2)
	tellsFlying(t, both, 0, 0)
	tellsTraffic(t, both, 0, 0, api.Traffic{Sent: 3, Lost: 3})
}

// P9.1

func TestNewAtEdges(t *testing.T) {
	for _, paths := range []int{math.MinInt, math.MinInt32, -8, -1, 0, 9, 10, 256 + 1, 1<<32 + 1, math.MaxInt} {
		if n, e := New(paths); n != nil || e != 1 {
			t.Errorf("New(%d) = %v, %d", paths, n, e)
		}
	}
	for paths := 1; paths <= 8; paths++ {
		p := pairOf(t, paths)
		p.look()
		for path := range paths {
			if !p.net.Works(path) {
				t.Errorf("of %d paths, %d is not up", paths, path)
			}
		}
		if n := p.net.Paths(); n != paths {
			t.Errorf("Paths = %d, want %d", n, paths)
		}
	}
}

// asked calls all functions with these arguments; the errors of those that have one, by their names.
func asked(t *testing.T, n *Net, end, path, i, at int, b []byte, now int) map[string]api.Errno {
	t.Helper()
	told := map[string]api.Errno{}
	zero := func(name string, zero bool, e api.Errno) {
		told[name] = e
		if e != 0 && !zero {
			t.Errorf("%s(%d, %d, ..) tells of something beside %d", name, end, path, e)
		}
	}
	id, e := n.Send(end, path, b, now)
	zero("Send", id == 0, e)
	id, e = n.Forge(end, path, b, now)
	zero("Forge", id == 0, e)
	list, e := n.Flying(end, path)
	zero("Flying", len(list) == 0, e)
	bs, e := n.Deliver(end, path, i)
	zero("Deliver", len(bs) == 0, e)
	zero("Drop", true, n.Drop(end, path, i))
	id, e = n.Twice(end, path, i)
	zero("Twice", id == 0, e)
	zero("Spoil", true, n.Spoil(end, path, i, at, 255))
	zero("Down", true, n.Down(path))
	zero("Up", true, n.Up(path))
	x, e := n.Traffic(end, path)
	zero("Traffic", x == api.Traffic{}, e)
	return told
}

func TestUnmadeNet(t *testing.T) {
	var none *Net
	for _, n := range []*Net{none, {}, new(Net)} {
		for range 2 { // the calls change nothing: it is as it was
			for _, end := range numbers() {
				for _, path := range numbers() {
					for _, i := range []int{-1, 0, 1, math.MaxInt} {
						for name, e := range asked(t, n, end, path, i, i, make([]byte, 3), i) {
							if e != 4 {
								t.Errorf("%s(%d, %d, %d) = %d", name, end, path, i, e)
							}
						}
					}
				}
				if n.Works(end) || n.Paths() != 0 {
					t.Errorf("Works(%d) = %v, Paths = %d", end, n.Works(end), n.Paths())
				}
			}
			for name, e := range asked(t, n, 0, 0, 0, 0, make([]byte, maxPacket+1), -1) {
				if e != 4 {
					t.Errorf("%s = %d", name, e)
				}
			}
		}
		if n != nil && !reflect.DeepEqual(*n, Net{}) {
			t.Error("a network that nobody made has changed")
		}
	}
}

// ErrPath

func TestStrangeEndsAndPaths(t *testing.T) {
	for _, paths := range []int{1, 2, 8} {
		for _, end := range numbers() {
			for _, path := range append(numbers(), paths-1, paths, paths+1) {
				goodPath := 0 <= path && path < paths
				if goodEnd(end) && goodPath {
					continue
				}
				p := filled(t, paths)
				p.down(0)
				for _, way := range []struct {
					i, at, now, size int
				}{{0, 0, 0, 0}, {-1, -1, -1, maxPacket + 1}, {4, 9, maxTime + 1, 0}, {0, 0, 0, maxPacket + 1}} {
					b := make([]byte, way.size)
					if !goodPath {
						for name, e := range asked(t, p.net, end, path, way.i, way.at, b, way.now) {
							if e != 90 {
								t.Errorf("%s(%d, %d) = %d", name, end, path, e)
							}
						}
						if p.net.Works(path) {
							t.Errorf("Works(%d) of %d paths", path, paths)
						}
						continue
					}
					p.send(end, path, b, way.now)
					p.forge(end, path, b, way.now)
					p.flying(end, path)
					p.deliver(end, path, way.i)
					p.drop(end, path, way.i)
					p.twice(end, path, way.i)
					p.spoil(end, path, way.i, way.at, 255)
					p.traffic(end, path)
				}
				p.look()
				p.empty()
			}
		}
	}
}

func TestStrangeEndsAreErrPath(t *testing.T) {
	for _, end := range []int{math.MinInt, -1, 2, math.MaxInt} {
		p := filled(t, 2)
		for name, e := range asked(t, p.net, end, 1, 0, 0, []byte("x"), 5) {
			want := api.Errno(90)
			if name == "Down" || name == "Up" { // there is no end in them
				want = 0
			}
			if e != want {
				t.Errorf("%s of end %d = %d, want %d", name, end, e, want)
			}
		}
	}
}

// P9.2

// put is Send, Forge or their likes.
type put struct {
	name string
	call func(n *Net, end, path int, b []byte, now int) (int, api.Errno)
}

func bothPuts() []put { return []put{{"Send", (*Net).Send}, {"Forge", (*Net).Forge}} }

func TestPutAtEdges(t *testing.T) {
	for _, cut := range []bool{false, true} {
		for _, now := range []int{math.MinInt, -maxTime, -1, 0, 1, maxTime - 1, maxTime, maxTime + 1, math.MaxInt} {
			for _, size := range []int{0, 1, 2, 1500, maxPacket - 1, maxPacket, maxPacket + 1, 2*maxPacket + 1} {
				for _, way := range bothPuts() {
					want := api.Errno(0)
					if now < 0 || now > maxTime {
						want = 1
					} else if size > maxPacket {
						want = 2
					}
					n := made(t, 2)
					if cut {
						n.Down(1)
					}
					if id, e := way.call(n, 1, 1, make([]byte, size), now); id != 0 || e != want {
						t.Errorf("%s of %d bytes at %d = %d, %d, want 0, %d", way.name, size, now, id, e, want)
					}
					forged := way.name == "Forge"
					switch {
					case want != 0:
						tellsFlying(t, n, 1, 1)
						tellsTraffic(t, n, 1, 1, api.Traffic{})
					case cut:
						tellsFlying(t, n, 1, 1)
						tellsTraffic(t, n, 1, 1, oneOf(forged, 1))
					default:
						tellsFlying(t, n, 1, 1, api.Flight{Sent: now, Len: size, Forged: forged})
						tellsTraffic(t, n, 1, 1, oneOf(forged, 0))
						delivers(t, n, 1, 1, 0, string(make([]byte, size)))
					}
					next, _ := n.Send(0, 0, nil, 0)
					if want == 0 && next != 1 || want != 0 && next != 0 {
						t.Errorf("the next number is %d behind %d", next, want)
					}
				}
			}
		}
	}
}

// oneOf is the traffic of one packet.
func oneOf(forged bool, lost int) api.Traffic {
	if forged {
		return api.Traffic{Forged: 1, Lost: lost}
	}
	return api.Traffic{Sent: 1, Lost: lost}
}

func TestPutIntoFullRow(t *testing.T) {
	for _, way := range bothPuts() {
		n := made(t, 2)
		crowd(t, n, 1, 1, maxFlying-1)
		id, e := way.call(n, 1, 1, []byte("the last"), 77)
		puts(t, id, e, maxFlying-1)
		before, _ := n.Flying(1, 1)
		wasTraffic, _ := n.Traffic(1, 1)
		for range 2 {
			id, e = way.call(n, 1, 1, []byte("one more"), 77)
			refused(t, id, e, 3)
			id, e = way.call(n, 1, 1, nil, 0)
			refused(t, id, e, 3)
		}
		tellsFlying(t, n, 1, 1, before...)
		tellsTraffic(t, n, 1, 1, wasTraffic)
		// neither the other end nor another path is full
		for i, other := range [][2]int{{0, 1}, {1, 0}, {0, 0}} {
			id, e = way.call(n, other[0], other[1], []byte("x"), 1)
			puts(t, id, e, maxFlying+i)
		}
		// room again, and it is full again
		n.Drop(1, 1, 5)
		id, e = way.call(n, 1, 1, []byte("again"), 78)
		puts(t, id, e, maxFlying+3)
		id, e = way.call(n, 1, 1, []byte("again"), 78)
		refused(t, id, e, 3)
		n.Deliver(1, 1, maxFlying-1)
		id, e = way.call(n, 1, 1, []byte("again"), 78)
		puts(t, id, e, maxFlying+4)
		n.Down(1)
		id, e = way.call(n, 1, 1, []byte("lost"), 78)
		puts(t, id, e, maxFlying+5)
		n.Up(1)
		id, e = way.call(n, 1, 1, []byte("there"), 79)
		puts(t, id, e, maxFlying+6)
		tellsFlying(t, n, 1, 1, api.Flight{ID: maxFlying + 6, Sent: 79, Len: 5, Forged: way.name == "Forge"})
	}
}

// A row counts those on their way now, not those that were put there.
func TestRoomIsWhatFlies(t *testing.T) {
	n := made(t, 1)
	for i := range 2*maxFlying + 5 {
		id, e := n.Send(0, 0, nil, 0)
		puts(t, id, e, i)
		delivers(t, n, 0, 0, 0, "")
	}
	crowd(t, n, 0, 0, maxFlying)
	id, e := n.Forge(0, 0, nil, 0)
	refused(t, id, e, 3)
}

func TestPutErrorsTogether(t *testing.T) {
	n := made(t, 1)
	crowd(t, n, 0, 0, maxFlying)
	for _, way := range bothPuts() {
		for _, c := range []struct {
			end, path, size, now int
			want                 api.Errno
		}{
			{2, 0, maxPacket + 1, -1, 90}, {-1, 0, 0, maxTime + 1, 90}, {0, 1, maxPacket + 1, 0, 90}, {0, -1, 0, 0, 90}, {2, 1, maxPacket + 1, -1, 90},
			{0, 0, maxPacket + 1, -1, 1}, {0, 0, 0, -1, 1}, {0, 0, maxPacket + 1, maxTime + 1, 1}, {0, 0, maxPacket, maxTime + 1, 1},
			{0, 0, maxPacket + 1, 0, 2}, {0, 0, maxPacket + 1, maxTime, 2},
			{0, 0, maxPacket, 0, 3}, {0, 0, 0, maxTime, 3},
			{1, 0, maxPacket + 1, -1, 1}, {1, 0, maxPacket + 1, 0, 2},
		} {
			id, e := way.call(n, c.end, c.path, make([]byte, c.size), c.now)
			if id != 0 || e != c.want {
				t.Errorf("%s(%d, %d, %d bytes, %d) = %d, %d, want 0, %d", way.name, c.end, c.path, c.size, c.now, id, e, c.want)
			}
		}
	}
	id, e := n.Send(1, 0, nil, 0)
	puts(t, id, e, maxFlying)
	tellsTraffic(t, n, 0, 0, api.Traffic{Sent: maxFlying})
}

func TestNumbersAreTheNetworks(t *testing.T) {
	n := made(t, 8)
	next := 0
	for path := range 8 {
		for end := range 2 {
			id, e := n.Send(end, path, []byte("a"), 1)
			puts(t, id, e, next)
			id, e = n.Forge(end, path, []byte("b"), 2)
			puts(t, id, e, next+1)
			id, e = n.Twice(end, path, 1)
			puts(t, id, e, next+2)
			next += 3
			// refused ones take none
			n.Send(end, path, nil, -1)
			n.Forge(end, path, nil, maxTime+1)
			n.Send(end, 8, nil, 0)
			n.Forge(2, path, nil, 0)
			n.Send(end, path, make([]byte, maxPacket+1), 0)
			n.Twice(end, path, 3)
			n.Twice(end, path, -1)
			n.Deliver(end, path, 0)
			n.Spoil(end, path, 0, 0, 1)
			if path%2 == 1 {
				n.Down(path)
				id, e = n.Send(end, path, nil, 3)
				puts(t, id, e, next)
				id, e = n.Forge(end, path, nil, 3)
				puts(t, id, e, next+1)
				id, e = n.Twice(end, path, 0)
				refused(t, id, e, 91)
				next += 2
				n.Up(path)
			}
		}
	}
}

func TestPutOnCutPath(t *testing.T) {
	p := filled(t, 2)
	p.down(1)
	p.send(0, 1, []byte("lost"), 5)
	p.look()
	p.forge(0, 1, []byte("lost too"), 6)
	p.look()
	p.forge(1, 1, nil, 6)
	p.send(1, 1, make([]byte, maxPacket), maxTime)
	p.look()
	for _, c := range []struct{ size, now int }{{0, -1}, {0, maxTime + 1}, {maxPacket + 1, 0}, {maxPacket + 1, -1}} {
		p.send(0, 1, make([]byte, c.size), c.now)
		p.forge(0, 1, make([]byte, c.size), c.now)
	}
	p.look()
	tellsTraffic(t, p.net, 0, 1, api.Traffic{Sent: 4, Forged: 2, Lost: 6})
	tellsTraffic(t, p.net, 1, 1, api.Traffic{Sent: 4, Forged: 2, Lost: 6})
	for i := range 2 * maxFlying { // what is lost takes no room
		if id, e := p.net.Send(0, 1, nil, 0); e != 0 || id != len(p.model.all)+i {
			t.Fatalf("Send = %d, %d", id, e)
		}
	}
}

// P9.3

func TestFlying(t *testing.T) {
	n := made(t, 2)
	tellsFlying(t, n, 0, 1)
	n.Send(0, 1, []byte("abc"), 9)
	tellsFlying(t, n, 0, 1, api.Flight{ID: 0, Sent: 9, Len: 3})
	n.Forge(1, 1, []byte("z"), 0)
	n.Send(0, 0, []byte("other"), 4)
	n.Forge(0, 1, nil, 2) // an earlier time, and it is behind the other one
	n.Send(0, 1, make([]byte, maxPacket), maxTime)
	want := []api.Flight{{ID: 0, Sent: 9, Len: 3}, {ID: 3, Sent: 2, Len: 0, Forged: true}, {ID: 4, Sent: maxTime, Len: maxPacket}}
	tellsFlying(t, n, 0, 1, want...)
	tellsFlying(t, n, 0, 0, api.Flight{ID: 2, Sent: 4, Len: 5})
	tellsFlying(t, n, 1, 1, api.Flight{ID: 1, Sent: 0, Len: 1, Forged: true})
	tellsFlying(t, n, 1, 0)
	n.Twice(0, 1, 1)
	n.Twice(0, 1, 0)
	want = append(want, api.Flight{ID: 5, Sent: 2, Len: 0, Forged: true}, api.Flight{ID: 6, Sent: 9, Len: 3})
	tellsFlying(t, n, 0, 1, want...)
	n.Twice(0, 1, 4) // a copy of a copy
	want = append(want, api.Flight{ID: 7, Sent: 9, Len: 3})
	tellsFlying(t, n, 0, 1, want...)
	n.Spoil(0, 1, 0, 2, 255)
	n.Spoil(0, 1, 2, 0, 128)
	tellsFlying(t, n, 0, 1, want...)
	n.Drop(0, 1, 1)
	tellsFlying(t, n, 0, 1, slices.Delete(slices.Clone(want), 1, 2)...)
	n.Deliver(0, 1, 4)
	tellsFlying(t, n, 0, 1, want[0], want[2], want[3], want[4])
	n.Up(1)
	n.Down(0)
	tellsFlying(t, n, 0, 1, want[0], want[2], want[3], want[4])
	n.Down(1)
	tellsFlying(t, n, 0, 1)
	n.Up(1)
	tellsFlying(t, n, 0, 1)
	n.Send(0, 1, nil, 1)
	tellsFlying(t, n, 0, 1, api.Flight{ID: 8, Sent: 1})
}

// P9.4

func TestNoSuchPacket(t *testing.T) {
	for count := range 5 {
		for _, i := range []int{math.MinInt, -5, -1, count, count + 1, 1<<32 + count, math.MaxInt} {
			p := pairOf(t, 2)
			for k := range count {
				p.send(1, 0, []byte{1, 2, byte(k)}, k)
			}
			for k := range 6 { // those of others count not
				p.send(0, 0, nil, k)
				p.send(1, 1, nil, k)
			}
			for name, e := range map[string]api.Errno{"Drop": p.net.Drop(1, 0, i), "Spoil": p.net.Spoil(1, 0, i, 0, 1), "Spoil at -1": p.net.Spoil(1, 0, i, -1, 1), "Spoil far": p.net.Spoil(1, 0, i, 99, 1)} {
				if e != 91 {
					t.Errorf("%s of packet %d of %d = %d", name, i, count, e)
				}
			}
			if b, e := p.net.Deliver(1, 0, i); len(b) != 0 || e != 91 {
				t.Errorf("Deliver of packet %d of %d = %x, %d", i, count, b, e)
			}
			id, e := p.net.Twice(1, 0, i)
			refused(t, id, e, 91)
			p.look()
			p.send(1, 0, nil, 9) // a refused one took no number
			p.empty()
		}
	}
}

// firstMiddleLast does something with each place of rows of some lengths.
func firstMiddleLast(t *testing.T, do func(p *pair, i int)) {
	for count := 1; count <= 6; count++ {
		for i := range count {
			p := pairOf(t, 2)
			for k := range count {
				p.send(0, 1, []byte{byte(k), 100}, k)
				p.forge(1, 1, []byte{byte(k), 101}, k)
				p.send(0, 0, []byte{byte(k), 102}, k)
			}
			do(p, i)
			p.look()
			p.empty()
		}
	}
}

func TestDeliver(t *testing.T) {
	firstMiddleLast(t, func(p *pair, i int) {
		before, _ := p.net.Flying(0, 1)
		delivers(p.t, p.net, 0, 1, i, string([]byte{byte(i), 100}))
		p.model.take(0, 1, i, came)
		tellsFlying(p.t, p.net, 0, 1, slices.Delete(before, i, i+1)...)
		tellsTraffic(p.t, p.net, 0, 1, api.Traffic{Sent: len(before), Delivered: 1})
	})
	firstMiddleLast(t, func(p *pair, i int) {
		p.deliver(1, 1, i)
		p.deliver(1, 1, i)
		p.deliver(0, 1, i)
		p.deliver(0, 0, i)
	})
}

func TestDrop(t *testing.T) {
	firstMiddleLast(t, func(p *pair, i int) {
		before, _ := p.net.Flying(0, 1)
		p.drop(0, 1, i)
		tellsFlying(p.t, p.net, 0, 1, slices.Delete(before, i, i+1)...)
		tellsTraffic(p.t, p.net, 0, 1, api.Traffic{Sent: len(before), Lost: 1})
	})
	firstMiddleLast(t, func(p *pair, i int) {
		p.drop(1, 1, i)
		p.drop(1, 1, 0)
		p.drop(0, 0, i)
	})
}

func TestTwice(t *testing.T) {
	firstMiddleLast(t, func(p *pair, i int) {
		before, _ := p.net.Flying(0, 1)
		number := len(p.model.all)
		id, e := p.net.Twice(0, 1, i)
		puts(p.t, id, e, number)
		p.model.twice(0, 1, i)
		double := before[i]
		double.ID = number
		tellsFlying(p.t, p.net, 0, 1, append(before, double)...)
		tellsTraffic(p.t, p.net, 0, 1, api.Traffic{Sent: len(before) + 1})
		// a copy of a forged one is Forged, and its traffic is a Twice's
		forged := len(p.model.row(1, 1))
		p.twice(1, 1, i)
		list, _ := p.net.Flying(1, 1)
		if last := list[len(list)-1]; !last.Forged || last.ID != number+1 || last.Sent != i {
			p.t.Errorf("the copy of a forged one is %v", last)
		}
		tellsTraffic(p.t, p.net, 1, 1, api.Traffic{Sent: 1, Forged: forged})
		p.look()
		delivers(p.t, p.net, 0, 1, len(before), string([]byte{byte(i), 100}))
		p.model.take(0, 1, len(before), came)
		delivers(p.t, p.net, 0, 1, i, string([]byte{byte(i), 100}))
		p.model.take(0, 1, i, came)
	})
	p := filled(t, 1)
	for i := range 8 { // copies of copies
		p.twice(0, 0, i)
		p.twice(1, 0, 3)
		p.look()
	}
	p.empty()
}

func TestTwiceInFullRow(t *testing.T) {
	n := made(t, 2)
	n.Send(1, 1, []byte("first"), 3)
	crowd(t, n, 1, 1, maxFlying-1)
	crowd(t, n, 0, 1, 3)
	number := maxFlying + 2
	id, e := n.Twice(1, 1, 0)
	puts(t, id, e, number)
	list, _ := n.Flying(1, 1)
	traffic, _ := n.Traffic(1, 1)
	for _, i := range []int{0, 1, maxFlying / 2, maxFlying - 1} {
		id, e = n.Twice(1, 1, i)
		refused(t, id, e, 3)
	}
	for _, i := range []int{-1, maxFlying, math.MinInt, math.MaxInt} { // there is no such one, and no room
		id, e = n.Twice(1, 1, i)
		refused(t, id, e, 91)
	}
	id, e = n.Twice(2, 1, 0)
	refused(t, id, e, 90)
	id, e = n.Twice(1, 2, 0)
	refused(t, id, e, 90)
	tellsFlying(t, n, 1, 1, list...)
	tellsTraffic(t, n, 1, 1, traffic)
	id, e = n.Twice(0, 1, 0)
	puts(t, id, e, number+1)
	n.Drop(1, 1, 9)
	id, e = n.Twice(1, 1, maxFlying-2)
	puts(t, id, e, number+2)
	id, e = n.Twice(1, 1, 0)
	refused(t, id, e, 3)
	delivers(t, n, 1, 1, maxFlying-1, "first")
}

func TestSpoil(t *testing.T) {
	firstMiddleLast(t, func(p *pair, i int) {
		before, _ := p.net.Flying(0, 1)
		traffic, _ := p.net.Traffic(0, 1)
		p.spoil(0, 1, i, 0, 0x81)
		p.spoil(0, 1, i, 1, 0x18)
		tellsFlying(p.t, p.net, 0, 1, before...)
		tellsTraffic(p.t, p.net, 0, 1, traffic)
		delivers(p.t, p.net, 0, 1, i, string([]byte{byte(i) ^ 0x81, 100 ^ 0x18}))
		p.model.take(0, 1, i, came)
	})
	firstMiddleLast(t, func(p *pair, i int) {
		p.spoil(1, 1, i, 1, 255)
		p.spoil(0, 0, i, 0, 255)
	})
}

func TestSpoilAtEdges(t *testing.T) {
	for _, size := range []int{0, 1, 2, 5, maxPacket} {
		for _, at := range []int{math.MinInt, -size, -1, 0, 1, size / 2, size - 1, size, size + 1, 1<<32 + 1, math.MaxInt} {
			for _, bits := range []byte{0, 1, 0x80, 0x5a, 255} {
				original := make([]byte, size)
				for i := range original {
					original[i] = byte(i * 7)
				}
				n := made(t, 1)
				n.Send(0, 0, []byte("front"), 0)
				n.Send(0, 0, original, 0)
				want := slices.Clone(original)
				e := n.Spoil(0, 0, 1, at, bits)
				if at >= 0 && at < size {
					want[at] = original[at] ^ bits
					if e != 0 {
						t.Errorf("Spoil of byte %d of %d = %d", at, size, e)
					}
				} else if e != 92 {
					t.Errorf("Spoil of byte %d of %d = %d", at, size, e)
				}
				delivers(t, n, 0, 0, 1, string(want))
				delivers(t, n, 0, 0, 0, "front")
			}
		}
	}
}

func TestSpoilTwice(t *testing.T) {
	for first := range 256 {
		n := made(t, 1)
		n.Send(0, 0, []byte{0x3c, 0xc3}, 0)
		n.Spoil(0, 0, 0, 1, byte(first))
		n.Twice(0, 0, 0) // as it is now
		n.Spoil(0, 0, 0, 1, byte(first))
		n.Twice(0, 0, 0)
		n.Spoil(0, 0, 0, 1, 0x0f)
		delivers(t, n, 0, 0, 0, string([]byte{0x3c, 0xc3 ^ 0x0f}))
		delivers(t, n, 0, 0, 0, string([]byte{0x3c, 0xc3 ^ byte(first)}))
		delivers(t, n, 0, 0, 0, string([]byte{0x3c, 0xc3}))
	}
}

func TestSpoilLeavesTheCopy(t *testing.T) {
	for which := range 3 {
		n := made(t, 2)
		b := []byte("same bytes")
		n.Send(0, 0, b, 0)
		n.Send(0, 1, b, 0)
		n.Send(1, 0, b, 0)
		n.Forge(0, 0, b, 0)
		n.Twice(0, 0, 0)
		if e := n.Spoil(0, 0, which, 0, 255); e != 0 {
			t.Errorf("Spoil = %d", e)
		}
		for i := range 3 {
			want := "same bytes"
			if i == which {
				want = "\x8came bytes"
			}
			delivers(t, n, 0, 0, 0, want)
		}
		delivers(t, n, 0, 1, 0, "same bytes")
		delivers(t, n, 1, 0, 0, "same bytes")
		if string(b) != "same bytes" {
			t.Errorf("what was handed in is %q", b)
		}
	}
}

func TestSpoilErrorsTogether(t *testing.T) {
	p := filled(t, 2)
	for _, end := range []int{-1, 0, 1, 2} {
		for _, path := range []int{-1, 0, 1, 2} {
			for _, i := range []int{math.MinInt, -1, 0, 1, 2, 3, 4, math.MaxInt} {
				for _, at := range []int{math.MinInt, -1, 0, 3, 4, 5, 6, math.MaxInt} {
					p.spoil(end, path, i, at, 0x11)
				}
			}
		}
	}
	p.look()
	p.empty()
}

// P9.5

func TestDownUpWorks(t *testing.T) {
	n := made(t, 3)
	works := func(want ...bool) {
		t.Helper()
		for path, up := range want {
			if n.Works(path) != up {
				t.Errorf("Works(%d) = %v", path, !up)
			}
		}
	}
	ok := func(e api.Errno) {
		t.Helper()
		if e != 0 {
			t.Errorf("error %d", e)
		}
	}
	for path := range 3 {
		for end := range 2 {
			n.Send(end, path, []byte("a"), 1)
			n.Forge(end, path, []byte("b"), 2)
		}
	}
	works(true, true, true)
	ok(n.Up(1)) // it is up: nothing happens
	works(true, true, true)
	tellsFlying(t, n, 0, 1, api.Flight{ID: 4, Sent: 1, Len: 1}, api.Flight{ID: 5, Sent: 2, Len: 1, Forged: true})
	ok(n.Down(1))
	works(true, false, true)
	for path := range 3 {
		for end := range 2 {
			if path == 1 {
				tellsFlying(t, n, end, path)
				tellsTraffic(t, n, end, path, api.Traffic{Sent: 1, Forged: 1, Lost: 2})
				continue
			}
			id := 4*path + 2*end
			tellsFlying(t, n, end, path, api.Flight{ID: id, Sent: 1, Len: 1}, api.Flight{ID: id + 1, Sent: 2, Len: 1, Forged: true})
			tellsTraffic(t, n, end, path, api.Traffic{Sent: 1, Forged: 1})
		}
	}
	ok(n.Down(1)) // lost is lost once
	works(true, false, true)
	tellsTraffic(t, n, 0, 1, api.Traffic{Sent: 1, Forged: 1, Lost: 2})
	ok(n.Down(0))
	works(false, false, true)
	ok(n.Up(1))
	works(false, true, true)
	tellsFlying(t, n, 0, 1) // what is lost does not come back
	ok(n.Up(1))
	ok(n.Down(2))
	ok(n.Up(0))
	works(true, true, false)
	n.Send(0, 1, []byte("new"), 3)
	delivers(t, n, 0, 1, 0, "new")
	for _, path := range []int{math.MinInt, -1, 3, 4, 8, math.MaxInt} {
		if n.Works(path) || n.Down(path) != 90 || n.Works(path) || n.Up(path) != 90 || n.Works(path) {
			t.Errorf("path %d", path)
		}
	}
	works(true, true, false)
}

func TestNothingFliesOnCutPath(t *testing.T) {
	p := filled(t, 2)
	p.down(0)
	for _, i := range []int{-1, 0, 1} {
		for end := range 2 {
			p.deliver(end, 0, i)
			p.drop(end, 0, i)
			p.twice(end, 0, i)
			p.spoil(end, 0, i, 0, 1)
		}
	}
	p.look()
	p.up(0)
	p.look()
	p.empty()
}

// P9.6

func TestTraffic(t *testing.T) {
	n := made(t, 2)
	step := func(want api.Traffic) {
		t.Helper()
		tellsTraffic(t, n, 1, 0, want)
		tellsTraffic(t, n, 0, 0, api.Traffic{})
		tellsTraffic(t, n, 0, 1, api.Traffic{})
		tellsTraffic(t, n, 1, 1, api.Traffic{})
	}
	step(api.Traffic{})
	n.Send(1, 0, []byte("a"), 0)
	step(api.Traffic{Sent: 1})
	n.Forge(1, 0, []byte("b"), 0)
	step(api.Traffic{Sent: 1, Forged: 1})
	n.Twice(1, 0, 0)
	step(api.Traffic{Sent: 2, Forged: 1})
	n.Twice(1, 0, 1) // of a forged one: a Twice is a Twice
	step(api.Traffic{Sent: 3, Forged: 1})
	n.Spoil(1, 0, 0, 0, 1)
	n.Flying(1, 0)
	step(api.Traffic{Sent: 3, Forged: 1})
	n.Deliver(1, 0, 1)
	step(api.Traffic{Sent: 3, Forged: 1, Delivered: 1})
	n.Drop(1, 0, 0)
	step(api.Traffic{Sent: 3, Forged: 1, Delivered: 1, Lost: 1})
	n.Down(1)
	n.Up(1)
	n.Up(0)
	step(api.Traffic{Sent: 3, Forged: 1, Delivered: 1, Lost: 1})
	n.Down(0)
	step(api.Traffic{Sent: 3, Forged: 1, Delivered: 1, Lost: 3})
	n.Send(1, 0, []byte("a"), 0)
	step(api.Traffic{Sent: 4, Forged: 1, Delivered: 1, Lost: 4})
	n.Forge(1, 0, nil, 0)
	step(api.Traffic{Sent: 4, Forged: 2, Delivered: 1, Lost: 5})
	n.Up(0)
	step(api.Traffic{Sent: 4, Forged: 2, Delivered: 1, Lost: 5})
	for _, now := range []int{-1, maxTime + 1} {
		n.Send(1, 0, nil, now)
		n.Forge(1, 0, nil, now)
	}
	n.Send(1, 0, make([]byte, maxPacket+1), 0)
	n.Forge(1, 0, make([]byte, maxPacket+1), 0)
	n.Deliver(1, 0, 0)
	n.Drop(1, 0, 0)
	n.Twice(1, 0, 0)
	n.Spoil(1, 0, 0, 0, 1)
	step(api.Traffic{Sent: 4, Forged: 2, Delivered: 1, Lost: 5})
}

// All functions

// stir does one call that hangs on what is rolled alone, mostly with good arguments.
func (p *pair) stir(r *rand.Rand) {
	p.t.Helper()
	end, path := r.Intn(2), r.Intn(p.model.paths)
	if r.Intn(20) == 0 {
		end = r.Intn(4) - 1
	}
	if r.Intn(20) == 0 {
		path = r.Intn(p.model.paths+2) - 1
	}
	i := r.Intn(1+len(p.model.row(end, path))) - r.Intn(20)/19
	b := make([]byte, r.Intn(6))
	r.Read(b)
	switch r.Intn(20) {
	case 0:
		p.down(path)
	case 1, 2:
		p.up(path)
	case 3, 4, 5:
		p.deliver(end, path, i)
	case 6:
		p.drop(end, path, i)
	case 7, 8:
		p.twice(end, path, i)
	case 9, 10:
		p.spoil(end, path, i, r.Intn(7)-1, byte(r.Intn(256)))
	case 11, 12, 13:
		p.forge(end, path, b, r.Intn(100)-1)
	case 14:
		p.send(end, path, b, maxTime+r.Intn(2))
	default:
		p.send(end, path, b, r.Intn(1000))
	}
}

func TestLongMixedRuns(t *testing.T) {
	for _, paths := range []int{1, 2, 3, 8} {
		for seed := range int64(6) {
			r := rand.New(rand.NewSource(seed*100 + int64(paths)))
			p := pairOf(t, paths)
			for i := range 1200 {
				p.stir(r)
				if i%20 == 0 {
					p.look()
				}
			}
			p.look()
			p.empty()
		}
	}
}

// All sequences of a few calls on one path, as what goes wrong with short rows goes wrong in few steps.
func TestAllShortRuns(t *testing.T) {
	calls := []func(*pair){
		func(p *pair) { p.send(0, 0, []byte("ab"), 1) },
		func(p *pair) { p.send(1, 0, []byte("c"), 2) },
		func(p *pair) { p.forge(0, 0, []byte("de"), 3) },
		func(p *pair) { p.deliver(0, 0, 0) },
		func(p *pair) { p.deliver(0, 0, 1) },
		func(p *pair) { p.drop(0, 0, 0) },
		func(p *pair) { p.twice(0, 0, 0) },
		func(p *pair) { p.twice(0, 0, 1) },
		func(p *pair) { p.spoil(0, 0, 0, 1, 3) },
		func(p *pair) { p.down(0) },
		func(p *pair) { p.up(0) },
	}
	const length = 4
	runs := 1
	for range length {
		runs *= len(calls)
	}
	for run := range runs {
		p := pairOf(t, 1)
		p.send(0, 0, []byte("xy"), 0)
		for rest, step := run, 0; step < length; step++ {
			calls[rest%len(calls)](p)
			rest /= len(calls)
		}
		p.empty()
	}
}

// P9.7

func TestAllTold(t *testing.T) {
	for seed := range int64(10) {
		r := rand.New(rand.NewSource(seed))
		p := pairOf(t, 1+r.Intn(8))
		n := p.net
		for range 500 {
			p.stir(r)
			for path := range n.Paths() {
				for end := range 2 {
					x, _ := n.Traffic(end, path)
					list, _ := n.Flying(end, path)
					if x.Sent+x.Forged != x.Delivered+x.Lost+len(list) {
						t.Fatalf("end %d, path %d: %v with %d on their way", end, path, x, len(list))
					}
				}
			}
		}
	}
}

// P9.8

// Each packet has other bytes, by its number; what comes is held against the number that Flying told, without any other account.
func TestWhole(t *testing.T) {
	for seed := range int64(10) {
		r := rand.New(rand.NewSource(seed))
		n := made(t, 3)
		put, spoiled := map[int][]byte{}, map[int]bool{}
		for range 2000 {
			end, path := r.Intn(2), r.Intn(3)
			list, _ := n.Flying(end, path)
			if r.Intn(3) == 0 || len(list) == 0 {
				b := make([]byte, r.Intn(40))
				r.Read(b)
				id, e := bothPuts()[r.Intn(2)].call(n, end, path, b, 0)
				if e != 0 || put[id] != nil {
					t.Fatalf("number %d again, or %d", id, e)
				}
				put[id] = slices.Clone(b)
				clear(b)
				continue
			}
			i := r.Intn(len(list))
			told := list[i]
			switch r.Intn(12) {
			case 0:
				n.Drop(end, path, i)
			case 1, 2:
				id, _ := n.Twice(end, path, i)
				put[id], spoiled[id] = put[told.ID], spoiled[told.ID]
			case 3:
				if n.Spoil(end, path, i, r.Intn(40), 1) == 0 {
					spoiled[told.ID] = true
				}
			case 4:
				if r.Intn(10) == 0 {
					n.Down(path)
					n.Up(path)
				}
			default:
				b, e := n.Deliver(end, path, i)
				if e != 0 || len(b) != told.Len || !spoiled[told.ID] && !bytes.Equal(b, put[told.ID]) {
					t.Fatalf("packet %d comes as %x, %d, put there as %x", told.ID, b, e, put[told.ID])
				}
			}
		}
	}
}

func TestAllBytesComeAsTheyAre(t *testing.T) {
	b := make([]byte, maxPacket)
	rand.New(rand.NewSource(1)).Read(b)
	for i := range 256 {
		b[i] = byte(i) // among them those that are no text
	}
	for _, size := range []int{0, 1, 256, 1500, maxPacket} {
		n := made(t, 1)
		n.Send(1, 0, b[:size], 0)
		n.Twice(1, 0, 0)
		n.Forge(1, 0, b[:size], 0)
		for range 3 {
			delivers(t, n, 1, 0, 0, string(b[:size]))
		}
	}
}

// Memory

func TestWhatIsHandedInIsNotKept(t *testing.T) {
	for _, way := range bothPuts() {
		n := made(t, 1)
		room := []byte("some bytes and more")
		b := room[:10]
		way.call(n, 0, 0, b, 0)
		n.Twice(0, 0, 0)
		if e := n.Spoil(0, 0, 1, 0, 255); e != 0 || string(room) != "some bytes and more" {
			t.Errorf("what was handed in is %q", room)
		}
		n.Spoil(0, 0, 1, 0, 255)
		for i := range room {
			room[i] = '#'
		}
		delivers(t, n, 0, 0, 0, "some bytes")
		delivers(t, n, 0, 0, 0, "some bytes")
		if string(room) != "###################" {
			t.Errorf("what was handed in is %q", room)
		}
	}
}

func TestAnswersAreNewMemory(t *testing.T) {
	p := filled(t, 1)
	p.twice(0, 0, 0)
	p.twice(0, 0, 0)
	mess := func(b []byte) {
		b = b[:cap(b)]
		for i := range b {
			b[i] = '#'
		}
	}
	one, _ := p.net.Deliver(0, 0, 0)
	p.model.take(0, 0, 0, came)
	mess(one)
	other, _ := p.net.Deliver(0, 0, 3) // a copy of it
	p.model.take(0, 0, 3, came)
	if !bytes.Equal(other, []byte{1, 2, 3, 0, 0}) {
		t.Errorf("a copy comes as %x", other)
	}
	mess(other)
	first, _ := p.net.Flying(0, 0)
	second, _ := p.net.Flying(0, 0)
	was := slices.Clone(second)
	for i := range first[:cap(first)] {
		first[:cap(first)][i] = api.Flight{ID: -1, Sent: -1, Len: -1, Forged: true}
	}
	if !slices.Equal(second, was) {
		t.Error("two answers of Flying share memory")
	}
	p.look()
	p.drop(0, 0, 0)
	p.send(0, 0, []byte("new"), 1)
	p.twice(0, 0, 1)
	if !slices.Equal(second, was) {
		t.Error("a later call changed a list that was told")
	}
	p.down(0)
	if !slices.Equal(second, was) {
		t.Error("a later call changed a list that was told")
	}
	p.look()
	p.empty()
}

func TestNetworksKnowNothingOfEachOther(t *testing.T) {
	one, other := filled(t, 3), pairOf(t, 3)
	other.look()
	other.send(0, 0, []byte("first"), 3) // it has numbers of its own
	one.down(0)
	other.look()
	other.down(1)
	other.twice(0, 0, 0)
	one.send(1, 1, []byte("x"), 4)
	one.look()
	other.spoil(0, 0, 0, 0, 1)
	one.drop(0, 1, 0)
	one.empty()
	other.look()
	other.empty()
	one.look()
}
