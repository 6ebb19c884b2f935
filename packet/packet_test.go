package packet

import (
	"bytes"
	"fmt"
	"math/rand"
	"slices"
	"testing"

	"ropewalk/api"
	"ropewalk/chunk"
)

// some is n bytes that hang on the seed alone.
func some(n int, seed int64) []byte {
	b := make([]byte, n)
	rand.New(rand.NewSource(seed)).Read(b)
	return b
}

// sized is a chunk of a kind that has a Body alone, of so many bytes in all.
func sized(k api.ChunkKind, n int) api.Chunk {
	// The length of two bytes is that of the value, and 4: the last of 65536 is a byte 0 behind it.
	return api.Chunk{Kind: k, Body: some(min(n-4, 65531), int64(n))}
}

// data is a DATA chunk with a Body of so many bytes.
func data(n int) api.Chunk {
	return api.Chunk{Kind: api.KData, Flags: 3, TSN: 0x01020304, Stream: 0x0506, SSN: 0x0708, Proto: 0x090A0B0C, Body: some(n, int64(n))}
}

// full is a chunk of a kind with something in each of its fields.
func full(k api.ChunkKind) api.Chunk {
	c := api.Chunk{Kind: k}
	switch k {
	case api.KData:
		return data(5)
	case api.KInit, api.KInitAck:
		c.Tag, c.Window, c.Out, c.In, c.TSN = 1, 1500, 2, 3, 4
		c.Params = []api.Param{{Type: 7, Body: []byte{1, 2, 3}}, {Type: 9, Body: []byte{4, 5}}}
	case api.KSack, api.KNrSack:
		c.TSN, c.Window = 9, 7
		c.Gaps = []api.Gap{{Start: 2, End: 3}, {Start: 5, End: 6}}
		c.Dups = []uint32{8, 7}
		if k == api.KNrSack {
			c.NR = []api.Gap{{Start: 5, End: 5}}
		}
	case api.KHeartbeat, api.KHeartAck:
		c.Params = []api.Param{{Type: 1, Body: []byte{9, 8, 7}}}
	case api.KAbort, api.KError:
		c.Params = []api.Param{{Type: 12, Body: []byte{6}}, {Type: 13}}
	case api.KShutdown:
		c.TSN = 77
	case api.KShutAck, api.KCookieAck, api.KShutDone:
	default:
		c.Body = []byte{3, 2, 1}
	}
	return c
}

var ack = api.Chunk{Kind: api.KCookieAck}

// of is a packet with these chunks.
func of(l ...api.Chunk) api.Packet {
	return api.Packet{From: 0x0102, To: 0x0304, Tag: 0x05060708, Chunks: l}
}

// bads are chunks that may not be, one for each error.
var bads = []struct {
	chunk api.Chunk
	why   api.Errno
}{
	{api.Chunk{Kind: api.KData}, 62},
	{api.Chunk{Kind: api.KShutAck, TSN: 1}, 63},
	{api.Chunk{Kind: api.KHeartbeat}, 61},
	{api.Chunk{Kind: api.KSack, Gaps: make([]api.Gap, 4097)}, 3},
	{api.Chunk{Kind: 200, Body: make([]byte, 65532)}, 2},
}

// friendly are all kinds that do not stand alone.
func friendly() []api.ChunkKind {
	var l []api.ChunkKind
	for k := range 256 {
		if !slices.Contains(alones, api.ChunkKind(k)) {
			l = append(l, api.ChunkKind(k))
		}
	}
	return l
}

// goodPackets may be.
func goodPackets() []api.Packet {
	var all []api.Packet
	for k := range 256 {
		all = append(all, of(full(api.ChunkKind(k))))
	}
	for _, k := range friendly() {
		all = append(all, of(ack, full(k)), of(full(k), data(1)), of(data(2), full(k), full(k), data(3)))
	}
	for _, port := range []uint16{1, 2, 255, 256, 32768, 65535} {
		for _, tag := range []uint32{0, 1, 255, 256, 65535, 65536, 1 << 24, 1<<32 - 1} {
			all = append(all, api.Packet{From: port, To: 9, Tag: tag, Chunks: []api.Chunk{ack}}, api.Packet{From: 9, To: port, Tag: tag, Chunks: []api.Chunk{data(9)}})
		}
	}
	for n := range 30 {
		all = append(all, of(data(n+1)), of(data(n+1), data(30-n)), of(slices.Repeat([]api.Chunk{ack}, n+1)...))
	}
	return append(all, greatPackets()...)
}

// greatPackets may be, and have as many bytes as may be, or a few fewer.
func greatPackets() []api.Packet {
	return []api.Packet{
		of(sized(200, 65520)), of(sized(200, 65524)), of(sized(0x0A, 65524)), of(data(65508)), of(data(65505)),
		of(sized(200, 32000), sized(201, 33524)), of(ack, sized(200, 65516), ack),
		of(slices.Repeat([]api.Chunk{ack}, 16381)...),
	}
}

// told holds Check and Encode against each other and against what is to come out.
func told(t *testing.T, name string, p api.Packet, want api.Errno) {
	t.Helper()
	if e := Check(p); e != want {
		t.Errorf("%s: Check = %d, want %d", name, e, want)
	}
	b, e := Encode(p)
	if e != want {
		t.Errorf("%s: Encode = %d, want %d", name, e, want)
	}
	var wanted []byte
	if want == 0 {
		wanted = bytesOf(p)
	}
	if !bytes.Equal(b, wanted) {
		t.Errorf("%s: Encode's bytes are others: %d of them, want %d", name, len(b), len(wanted))
	}
}

// P7.1

func TestTheFirstExample(t *testing.T) {
	p := api.Packet{From: 1, To: 2, Tag: 3, Chunks: []api.Chunk{ack}}
	told(t, "example 1", p, 0)
	b, e := Encode(p)
	if e != 0 || len(b) != 16 {
		t.Fatalf("Encode = %v, %d", b, e)
	}
	if !bytes.Equal(b[:8], []byte{0, 1, 0, 2, 0, 0, 0, 3}) || !bytes.Equal(b[12:], []byte{11, 0, 0, 4}) {
		t.Errorf("Encode = %v", b)
	}
	if sum := sealed(b); !bytes.Equal(b, sum) {
		t.Errorf("the sum of %v is not that of %v", b, sum)
	}
}

func TestBytesOfTheHead(t *testing.T) {
	b, _ := Encode(of(ack))
	if !bytes.Equal(b[:8], []byte{1, 2, 3, 4, 5, 6, 7, 8}) {
		t.Errorf("the head is %v", b[:8])
	}
}

func TestNumbers(t *testing.T) {
	for _, n := range []struct {
		name      string
		got, want int
	}{
		{"ErrArg", int(api.ErrArg), 1}, {"ErrLong", int(api.ErrLong), 2}, {"ErrBrief", int(api.ErrBrief), 20}, {"ErrCrc", int(api.ErrCrc), 21},
		{"ErrPort", int(api.ErrPort), 72}, {"ErrEmpty", int(api.ErrEmpty), 73}, {"ErrBundle", int(api.ErrBundle), 74},
		{"PacketHead", api.PacketHead, 12}, {"ChunkHead", api.ChunkHead, 4}, {"DataHead", api.DataHead, 16},
		{"MaxPacket", api.MaxPacket, 65536}, {"LeastMTU", api.LeastMTU, 100}, {"MostMTU", api.MostMTU, 1500},
		{"KInit", int(api.KInit), 1}, {"KInitAck", int(api.KInitAck), 2}, {"KShutDone", int(api.KShutDone), 14},
	} {
		if n.got != n.want {
			t.Errorf("%s is %d, want %d", n.name, n.got, n.want)
		}
	}
}

func TestPacketsThatMayBe(t *testing.T) {
	for i, p := range goodPackets() {
		told(t, fmt.Sprintf("packet %d", i), p, 0)
	}
}

func TestPorts(t *testing.T) {
	for _, l := range [][]api.Chunk{{ack}, {full(api.KInit)}, {data(1), ack}} {
		for _, from := range []uint16{0, 1, 256, 65535} {
			for _, to := range []uint16{0, 1, 256, 65535} {
				want := api.OK
				if from == 0 || to == 0 {
					want = 72
				}
				told(t, fmt.Sprintf("from %d to %d", from, to), api.Packet{From: from, To: to, Tag: 1, Chunks: l}, want)
			}
		}
	}
}

func TestNoChunk(t *testing.T) {
	told(t, "nil", of(), 73)
	told(t, "empty", of([]api.Chunk{}...), 73)
	told(t, "empty with room", of(make([]api.Chunk, 0, 5)...), 73)
	told(t, "zero", api.Packet{}, 72)
}

func TestAloneOfAllKinds(t *testing.T) {
	for k := range 256 {
		if got, want := Alone(api.ChunkKind(k)), k == 1 || k == 2 || k == 14; got != want {
			t.Errorf("Alone(%d) = %v", k, got)
		}
	}
}

func TestThoseThatStandAlone(t *testing.T) {
	for _, k := range alones {
		one := full(k)
		told(t, fmt.Sprintf("%d by itself", k), of(one), 0)
		told(t, fmt.Sprintf("%d with nothing in it by itself", k), of(api.Chunk{Kind: k}), 0)
		for _, other := range friendly() {
			x := full(other)
			told(t, fmt.Sprintf("%d ahead of %d", k, other), of(one, x), 74)
			told(t, fmt.Sprintf("%d behind %d", k, other), of(x, one), 74)
			told(t, fmt.Sprintf("%d between two of %d", k, other), of(x, one, x), 74)
			told(t, fmt.Sprintf("%d behind two of %d", k, other), of(x, x, one), 74)
		}
		for _, other := range alones {
			told(t, fmt.Sprintf("%d and %d", k, other), of(one, full(other)), 74)
			told(t, fmt.Sprintf("%d, %d and %d", k, k, other), of(one, one, full(other)), 74)
		}
	}
}

func TestAnyTwoOthersTogether(t *testing.T) {
	for _, a := range friendly() {
		for _, b := range []api.ChunkKind{0, 3, 4, 5, 6, 7, 8, 9, 10, 11, 12, 13, 15, 16, 17, 255} {
			if e := Check(of(full(a), full(b))); e != 0 {
				t.Errorf("%d and %d: %d", a, b, e)
			}
		}
	}
}

// faulty is a packet with the faults of a set: 1 a port, 2 no chunk, 4 one that stands alone, 8 one that may not be, 16 too many bytes.
func faulty(set int, bad api.Chunk) (api.Packet, bool) {
	p := of(ack)
	if set&1 != 0 {
		p.To = 0
	}
	if set&2 != 0 {
		p.Chunks = nil
		return p, set&^3 == 0
	}
	if set&4 != 0 {
		p.Chunks = append(p.Chunks, full(api.KInit))
	}
	if set&16 != 0 {
		p.Chunks = append(p.Chunks, sized(200, 65524))
	}
	if set&8 != 0 {
		p.Chunks = append(p.Chunks, bad)
	}
	return p, true
}

func TestRefusalsInTheirOrder(t *testing.T) {
	for _, bad := range bads {
		for set := range 32 {
			p, may := faulty(set, bad.chunk)
			if !may {
				continue
			}
			want := api.OK
			for i, e := range []api.Errno{72, 73, 74, bad.why, 2} {
				if set>>i&1 == 1 {
					want = e
					break
				}
			}
			told(t, fmt.Sprintf("faults %05b with %d", set, bad.why), p, want)
		}
	}
}

func TestAPortAheadOfNoChunk(t *testing.T) {
	told(t, "From 0, no chunk", api.Packet{To: 1}, 72)
	told(t, "To 0, no chunk", api.Packet{From: 1}, 72)
}

func TestChunksThatMayNotBe(t *testing.T) {
	for _, bad := range bads {
		name := fmt.Sprintf("one with %d", bad.why)
		told(t, name, of(bad.chunk), bad.why)
		told(t, name+" at the first place", of(bad.chunk, data(1), ack), bad.why)
		told(t, name+" in the middle", of(data(1), bad.chunk, ack), bad.why)
		told(t, name+" at the last place", of(data(1), ack, bad.chunk), bad.why)
		for _, other := range bads {
			told(t, name+fmt.Sprintf(" ahead of one with %d", other.why), of(ack, bad.chunk, ack, other.chunk, ack), bad.why)
		}
	}
	for _, k := range alones {
		told(t, "one that stands alone with a strange field", of(api.Chunk{Kind: k, SSN: 1}), 63)
	}
}

func TestTheMostBytes(t *testing.T) {
	for n, want := range map[int]api.Errno{65516: 0, 65520: 0, 65524: 0, 65528: 2, 65532: 2, 65536: 2, 65540: 2, 65544: 2, 131072: 2} {
		name := fmt.Sprintf("%d bytes", n)
		if n <= 65536 {
			told(t, name+" in one chunk", of(sized(200, n)), want)
		}
		half := n / 8 * 4
		told(t, name+" in two chunks", of(sized(200, half), sized(77, n-half)), want)
		told(t, name+" in many chunks", of(slices.Repeat([]api.Chunk{ack}, n/4)...), want)
	}
	// The bytes 0 behind a value count.
	for n := range 8 {
		want := api.OK
		if n > 4 {
			want = 2
		}
		told(t, fmt.Sprintf("a Body of %d", 65516+n), of(api.Chunk{Kind: 200, Body: make([]byte, 65516+n)}), want)
	}
}

// anyChunk is any of those that may be, and now and then one that may not.
func anyChunk(r *rand.Rand) api.Chunk {
	switch r.Intn(8) {
	case 0:
		return full(alones[r.Intn(3)])
	case 1:
		if r.Intn(8) == 0 {
			return bads[r.Intn(len(bads))].chunk
		}
		return ack
	case 2, 3:
		return data(1 + r.Intn(60))
	}
	return full(api.ChunkKind(r.Intn(20)))
}

func anyChunks(r *rand.Rand, most int) []api.Chunk {
	var l []api.Chunk
	for range r.Intn(most + 1) {
		l = append(l, anyChunk(r))
	}
	return l
}

func TestAnyPackets(t *testing.T) {
	r := rand.New(rand.NewSource(7))
	seen := map[api.Errno]int{}
	for i := range 4000 {
		p := api.Packet{From: uint16(r.Intn(6)), To: uint16(r.Intn(6)), Tag: r.Uint32(), Chunks: anyChunks(r, 4)}
		want := whyNot(p)
		seen[want]++
		told(t, fmt.Sprintf("packet %d", i), p, want)
	}
	for _, e := range []api.Errno{0, 72, 73, 74, 62, 63, 61, 3, 2} {
		if seen[e] == 0 {
			t.Errorf("%d did not come", e)
		}
	}
}

// P7.2

// held holds Head and Decode against the model, and tells Decode's answers.
func held(t *testing.T, name string, b []byte) (int, api.Errno) {
	t.Helper()
	want, wantE := headOf(b)
	if p, e := Head(b); e != wantE || shown(p) != shown(want) {
		t.Errorf("%s: Head = %v, %d; want %v, %d", name, p, e, want, wantE)
	}
	want, wantAt, wantE := packetOf(b)
	p, at, e := Decode(b)
	if e != wantE || at != wantAt || shown(p) != shown(want) {
		t.Errorf("%s: Decode = %d chunks, %d, %d; want %d chunks, %d, %d", name, len(p.Chunks), at, e, len(want.Chunks), wantAt, wantE)
	}
	return at, e
}

// heads and decodes tell whether both answer as is wanted, without the model.
func heads(t *testing.T, name string, b []byte, want api.Errno) {
	t.Helper()
	if p, e := Head(b); e != want || e != 0 && shown(p) != shown(api.Packet{}) {
		t.Errorf("%s: Head = %v, %d; want %d", name, p, e, want)
	}
}

func decodes(t *testing.T, name string, b []byte, wantAt int, want api.Errno) {
	t.Helper()
	if p, at, e := Decode(b); e != want || at != wantAt || e != 0 && shown(p) != shown(api.Packet{}) {
		t.Errorf("%s: Decode = %d chunks, %d, %d; want place %d, %d", name, len(p.Chunks), at, e, wantAt, want)
	}
	held(t, name, b)
}

func TestReadOfTheFirstExample(t *testing.T) {
	b := framed(1, 2, 3, 11, 0, 0, 4)
	p, at, e := Decode(b)
	if e != 0 || at != 0 || shown(p) != shown(api.Packet{From: 1, To: 2, Tag: 3, Chunks: []api.Chunk{ack}}) {
		t.Errorf("Decode = %v, %d, %d", p, at, e)
	}
	p, e = Head(b)
	if e != 0 || len(p.Chunks) != 0 || shown(p) != shown(api.Packet{From: 1, To: 2, Tag: 3}) {
		t.Errorf("Head = %v, %d", p, e)
	}
}

func TestReadOfTooFewBytes(t *testing.T) {
	whole := framed(1, 2, 3, 11, 0, 0, 4)
	heads(t, "nil", nil, 20)
	decodes(t, "nil", nil, 0, 20)
	for n := range 12 {
		for _, b := range [][]byte{whole[:n], make([]byte, n), some(n, 5)} {
			heads(t, fmt.Sprintf("%d bytes", n), b, 20)
			decodes(t, fmt.Sprintf("%d bytes", n), b, 0, 20)
		}
	}
}

func TestReadOfTheHeadAlone(t *testing.T) {
	b := framed(1, 2, 3)
	heads(t, "a head", b, 0)
	decodes(t, "a head", b, 0, 73)
	heads(t, "twelve bytes of a packet", framed(1, 2, 3, 11, 0, 0, 4)[:12], 21)
	decodes(t, "twelve bytes of a packet", framed(1, 2, 3, 11, 0, 0, 4)[:12], 0, 21)
	for _, ports := range [][2]uint16{{0, 1}, {1, 0}, {0, 0}} {
		b := framed(ports[0], ports[1], 3)
		heads(t, "a head with a port 0", b, 72)
		decodes(t, "a head with a port 0", b, 0, 72)
	}
	// The sum of twelve bytes 0 is not 0.
	heads(t, "twelve bytes 0", make([]byte, 12), 21)
	decodes(t, "twelve bytes 0", make([]byte, 12), 0, 21)
}

func TestReadOfAFewBytesMore(t *testing.T) {
	for n, behind := range [][]byte{1: {11}, 2: {11, 0}, 3: {11, 0, 0}} {
		if n == 0 {
			continue
		}
		b := framed(1, 2, 3, behind...)
		heads(t, fmt.Sprintf("%d bytes", len(b)), b, 0)
		decodes(t, fmt.Sprintf("%d bytes", len(b)), b, 12, 60)
	}
	for _, c := range []struct {
		behind []byte
		at     int
		e      api.Errno
	}{
		{[]byte{11, 0, 0, 4}, 0, 0}, {[]byte{8, 9, 0, 4}, 0, 0}, {[]byte{14, 1, 0, 4}, 0, 0}, {[]byte{200, 1, 0, 4}, 0, 0}, {[]byte{9, 0, 0, 4}, 0, 0},
		{[]byte{11, 0, 0, 3}, 12, 60}, {[]byte{11, 0, 0, 0}, 12, 60}, {[]byte{11, 0, 0, 5}, 12, 60}, {[]byte{11, 0, 1, 4}, 12, 60}, {[]byte{200, 0, 255, 255}, 12, 60},
		{[]byte{0, 3, 0, 4}, 12, 61}, {[]byte{1, 0, 0, 4}, 12, 61}, {[]byte{3, 0, 0, 4}, 12, 61}, {[]byte{4, 0, 0, 4}, 12, 61}, {[]byte{7, 0, 0, 4}, 12, 61},
	} {
		b := framed(1, 2, 3, c.behind...)
		heads(t, shown(c.behind), b, 0)
		decodes(t, shown(c.behind), b, c.at, c.e)
	}
}

func TestReadOfTheMostBytes(t *testing.T) {
	for _, p := range greatPackets() {
		heads(t, "a great packet", bytesOf(p), 0)
		decodes(t, "a great packet", bytesOf(p), 0, 0)
	}
	for _, n := range []int{65535, 65536} {
		// A chunk that needs no bytes 0 behind it, as it is the last one.
		b := framed(1, 2, 3, append([]byte{200, 1, byte((n - 12) >> 8), byte(n - 12)}, make([]byte, n-16)...)...)
		heads(t, fmt.Sprintf("%d bytes", n), b, 0)
		decodes(t, fmt.Sprintf("%d bytes", n), b, 0, 0)
	}
	for _, n := range []int{65537, 65538, 65539, 65540, 65544, 70000, 131072} {
		name := fmt.Sprintf("%d bytes", n)
		acks := slices.Concat(slices.Repeat([]byte{11, 0, 0, 4}, n/4-3), make([]byte, n%4))
		for _, b := range [][]byte{framed(1, 2, 3, acks...), framed(0, 2, 3, acks...), make([]byte, n), some(n, 3), sealed(some(n, 4))} {
			if len(b) != n {
				t.Fatalf("%d bytes are not %d", len(b), n)
			}
			heads(t, name, b, 2)
			decodes(t, name, b, 0, 2)
		}
	}
}

func TestReadOfAWrongSum(t *testing.T) {
	for _, p := range []api.Packet{of(ack), of(full(api.KInit)), of(data(3), full(api.KNrSack)), of()} {
		b := framed(p.From, p.To, p.Tag, chunkBytes(p.Chunks...)...)
		for i := 8; i < 12; i++ {
			for _, by := range []byte{1, 128, 255} {
				wrong := slices.Clone(b)
				wrong[i] += by
				heads(t, "a wrong sum", wrong, 21)
				decodes(t, "a wrong sum", wrong, 0, 21)
			}
		}
		back := slices.Clone(b)
		slices.Reverse(back[8:12])
		heads(t, "a sum from behind", back, 21)
		decodes(t, "a sum from behind", back, 0, 21)
		none := slices.Clone(b)
		copy(none[8:12], make([]byte, 4))
		heads(t, "no sum", none, 21)
		decodes(t, "no sum", none, 0, 21)
	}
}

func TestReadOfPorts(t *testing.T) {
	for _, from := range []uint16{0, 1, 255, 256, 65535} {
		for _, to := range []uint16{0, 1, 255, 256, 65535} {
			b := framed(from, to, 9, 11, 0, 0, 4)
			want := api.OK
			if from == 0 || to == 0 {
				want = 72
			}
			heads(t, fmt.Sprintf("from %d to %d", from, to), b, want)
			decodes(t, fmt.Sprintf("from %d to %d", from, to), b, 0, want)
		}
	}
}

// nones are bytes that are no chunk, and why.
var nones = []struct {
	bytes []byte
	why   api.Errno
	last  bool // they are none at the end alone: bytes behind them would be their own
}{
	{[]byte{11, 0, 0, 3}, 60, false},
	{[]byte{11, 0, 0, 0}, 60, false},
	{[]byte{11, 0, 0, 8}, 60, true},
	{[]byte{11}, 60, true},
	{[]byte{11, 0, 0}, 60, true},
	{[]byte{11, 0, 0, 5, 0, 0, 0, 0}, 61, false},
	{[]byte{7, 0, 0, 7, 1, 2, 3, 0}, 61, false},
	{[]byte{5, 0, 0, 4}, 61, false},
	{append([]byte{0, 3, 0, 16}, make([]byte, 12)...), 62, false},
	{append([]byte{3, 0, 0, 16, 0, 0, 0, 1, 0, 0, 0, 2}, 16, 1, 0, 0), 3, false},
	{[]byte{9, 0, 0, 8, 0, 1, 0, 3}, 50, false},
}

func TestReadOfBytesThatAreNoChunk(t *testing.T) {
	for _, none := range nones {
		name := fmt.Sprintf("%v", none.bytes)
		for _, ahead := range [][]api.Chunk{{}, {ack}, {data(3)}, {full(api.KAbort), data(2), ack}} {
			start := chunkBytes(ahead...)
			b := framed(1, 2, 3, append(slices.Clone(start), none.bytes...)...)
			heads(t, name, b, 0)
			decodes(t, name, b, 12+len(start), none.why)
			if none.last {
				continue
			}
			for _, behind := range [][]api.Chunk{{ack}, {data(9), ack}} {
				b := framed(1, 2, 3, slices.Concat(start, none.bytes, chunkBytes(behind...))...)
				heads(t, name, b, 0)
				decodes(t, name, b, 12+len(start), none.why)
			}
		}
	}
}

func TestReadOfTheFirstThatIsNone(t *testing.T) {
	for _, a := range nones {
		for _, b := range nones {
			if a.last {
				continue
			}
			decodes(t, "two that are none", framed(1, 2, 3, slices.Concat(chunkBytes(ack, data(1)), a.bytes, b.bytes)...), 12+4+20, a.why)
		}
	}
}

func TestReadOfThoseThatStandAlone(t *testing.T) {
	for _, k := range alones {
		one := full(k)
		b := framed(1, 2, 3, chunkBytes(one)...)
		heads(t, "alone", b, 0)
		decodes(t, "alone", b, 0, 0)
		for _, l := range [][]api.Chunk{{one, ack}, {ack, one}, {ack, one, ack}, {one, one}, {data(4), ack, one}, {one, full(1)}, {one, full(2)}, {one, full(14)}} {
			b := framed(1, 2, 3, chunkBytes(l...)...)
			heads(t, "not alone", b, 0)
			decodes(t, "not alone", b, 0, 74)
		}
	}
}

func TestReadOfFaultsInTheirOrder(t *testing.T) {
	long, crowd, none := make([]byte, 65536), chunkBytes(full(1), ack), []byte{11, 0, 0, 3}
	wrong := func(b []byte) []byte {
		b = slices.Clone(b)
		b[9] ^= 4
		return b
	}
	for _, c := range []struct {
		name       string
		bytes      []byte
		head, want api.Errno
		at         int
	}{
		{"long, a wrong sum", wrong(framed(1, 2, 3, long...)), 2, 2, 0},
		{"long, a port 0", framed(1, 0, 3, long...), 2, 2, 0},
		{"long, no chunk", framed(1, 1, 3, append(none, long...)...), 2, 2, 0},
		{"long, not alone", framed(1, 1, 3, slices.Repeat([]byte{14, 0, 0, 4}, 17000)...), 2, 2, 0},
		{"a wrong sum, a port 0", wrong(framed(0, 2, 3, 11, 0, 0, 4)), 21, 21, 0},
		{"a wrong sum, just the head", wrong(framed(1, 2, 3)), 21, 21, 0},
		{"a wrong sum, no chunk", wrong(framed(1, 2, 3, none...)), 21, 21, 0},
		{"a wrong sum, not alone", wrong(framed(1, 2, 3, crowd...)), 21, 21, 0},
		{"too short, a port 0", []byte{0, 0, 0, 1, 0, 0, 0, 0, 0, 0, 0}, 20, 20, 0},
		{"a port 0, just the head", framed(0, 2, 3), 72, 72, 0},
		{"a port 0, no chunk", framed(1, 0, 3, none...), 72, 72, 0},
		{"a port 0, not alone", framed(1, 0, 3, crowd...), 72, 72, 0},
		{"no chunk, not alone", framed(1, 1, 3, append(slices.Clone(crowd), none...)...), 0, 60, 12 + len(crowd)},
		{"no chunk ahead, not alone", framed(1, 1, 3, append(slices.Clone(none), crowd...)...), 0, 60, 12},
	} {
		heads(t, c.name, c.bytes, c.head)
		decodes(t, c.name, c.bytes, c.at, c.want)
	}
}

func TestHeadWhateverStandsBehind(t *testing.T) {
	for n := range 60 {
		b := framed(0x0102, 0x0304, 0x05060708, some(n, int64(n))...)
		p, e := Head(b)
		if e != 0 || shown(p) != shown(of()) {
			t.Errorf("Head with %d bytes behind = %v, %d", n, p, e)
		}
		held(t, "any bytes behind", b)
	}
}

func TestReadOfWhatMayBeAny(t *testing.T) {
	// A flag that does not count; bytes behind a value; none of them behind the last one.
	b := framed(1, 2, 3, 8, 255, 0, 4, 200, 1, 0, 5, 9, 1, 2, 3, 10, 0, 0, 6, 7, 8)
	p, at, e := Decode(b)
	want := api.Packet{From: 1, To: 2, Tag: 3, Chunks: []api.Chunk{{Kind: 8}, {Kind: 200, Flags: 1, Body: []byte{9}}, {Kind: 10, Body: []byte{7, 8}}}}
	if e != 0 || at != 0 || shown(p) != shown(want) {
		t.Errorf("Decode = %v, %d, %d; want %v", p, at, e, want)
	}
}

func TestReadOfAnyBytes(t *testing.T) {
	r := rand.New(rand.NewSource(11))
	seen := map[api.Errno]int{}
	for i := range 20000 {
		var behind []byte
		for range r.Intn(4) {
			c := anyChunk(r)
			for chunk.Check(c) != 0 {
				c = anyChunk(r)
			}
			behind = append(behind, chunkBytes(c)...)
		}
		for range r.Intn(3) {
			if len(behind) > 0 {
				behind[r.Intn(len(behind))] = byte(r.Intn(20))
			}
		}
		if r.Intn(4) == 0 {
			behind = behind[:r.Intn(len(behind)+1)]
		}
		b := framed(uint16(r.Intn(8)), uint16(r.Intn(8)), r.Uint32(), behind...)
		if r.Intn(8) == 0 {
			b[r.Intn(len(b))] ^= 1 << r.Intn(8)
		}
		if r.Intn(8) == 0 {
			b = b[:r.Intn(len(b)+1)]
		}
		_, e := held(t, fmt.Sprintf("bytes %d", i), b)
		seen[e]++
	}
	for _, e := range []api.Errno{0, 20, 21, 72, 73, 74, 60, 61} {
		if seen[e] == 0 {
			t.Errorf("%d did not come", e)
		}
	}
}

// P7.3

// bundled holds Bundle against the model, and tells its answers.
func bundled(t *testing.T, name string, mtu int, l ...api.Chunk) ([][]api.Chunk, api.Errno) {
	t.Helper()
	want, wantE := rowsOf(mtu, l)
	got, e := Bundle(mtu, l...)
	if e != wantE || shown(got) != shown(want) {
		t.Errorf("%s: Bundle(%d) = %v, %d; want %v, %d", name, mtu, counts(got), e, counts(want), wantE)
	}
	return got, e
}

// counts are how many chunks each row has.
func counts(l [][]api.Chunk) []int {
	var all []int
	for _, row := range l {
		all = append(all, len(row))
	}
	return all
}

// laid tells whether Bundle lays chunks into rows of so many.
func laid(t *testing.T, name string, mtu int, l []api.Chunk, want ...int) {
	t.Helper()
	got, e := bundled(t, name, mtu, l...)
	if e != 0 || !slices.Equal(counts(got), want) {
		t.Errorf("%s: Bundle(%d) = rows of %v, %d; want %v", name, mtu, counts(got), e, want)
	}
}

// unbundled tells whether Bundle answers an error, and nothing else.
func unbundled(t *testing.T, name string, mtu int, l []api.Chunk, want api.Errno) {
	t.Helper()
	if got, e := bundled(t, name, mtu, l...); e != want || len(got) != 0 {
		t.Errorf("%s: Bundle(%d) = rows of %v, %d; want %d", name, mtu, counts(got), e, want)
	}
}

func TestTheSecondExample(t *testing.T) {
	c := data(24)
	if n := chunk.Size(c); n != 40 {
		t.Fatalf("the chunk has %d bytes", n)
	}
	laid(t, "example 2", 100, []api.Chunk{c, c, c}, 2, 1)
}

func TestBundleOfMtus(t *testing.T) {
	for _, mtu := range []int{99, 1501, 0, -1, 1, 12, 16, -100, -1500, 65536, 1 << 40, -1 << 62, 1<<63 - 1, -1 << 63} {
		unbundled(t, "an mtu that may not be", mtu, nil, 1)
		unbundled(t, "an mtu that may not be", mtu, []api.Chunk{ack}, 1)
		unbundled(t, "an mtu that may not be, and a chunk that may not", mtu, []api.Chunk{{}}, 1)
		unbundled(t, "an mtu that may not be, and a chunk that is too long", mtu, []api.Chunk{data(1400), data(60000)}, 1)
	}
	for _, mtu := range []int{100, 101, 102, 103, 104, 1499, 1500} {
		laid(t, "an mtu that may be", mtu, []api.Chunk{ack}, 1)
	}
}

func TestBundleOfNone(t *testing.T) {
	for _, mtu := range []int{100, 576, 1500} {
		laid(t, "nil", mtu, nil)
		laid(t, "empty", mtu, []api.Chunk{})
	}
}

func TestBundleOfOne(t *testing.T) {
	for k := range 256 {
		laid(t, fmt.Sprintf("kind %d", k), 100, []api.Chunk{full(api.ChunkKind(k))}, 1)
	}
}

func TestBundleAtTheMtu(t *testing.T) {
	for mtu := 100; mtu <= 1500; mtu++ {
		room := (mtu - 12) / 4 * 4
		laid(t, "one chunk that fills all", mtu, []api.Chunk{sized(200, room)}, 1)
		unbundled(t, "one chunk that is too long", mtu, []api.Chunk{sized(200, room+4)}, 2)
		laid(t, "two that fill all", mtu, []api.Chunk{sized(200, room-8), sized(201, 8)}, 2)
		laid(t, "two that fill all, the last the least one", mtu, []api.Chunk{sized(200, room-4), ack}, 2)
		laid(t, "two that are a least one too long", mtu, []api.Chunk{sized(200, room-4), sized(201, 8)}, 1, 1)
		laid(t, "one too many of the least", mtu, []api.Chunk{sized(200, room), ack}, 1, 1)
	}
	for _, mtu := range []int{100, 101, 102, 103, 104, 105, 576, 1280, 1496, 1497, 1498, 1499, 1500} {
		many := (mtu - 12) / 4
		laid(t, "just as many as there is room", mtu, slices.Repeat([]api.Chunk{ack}, many), many)
		laid(t, "one more than there is room", mtu, slices.Repeat([]api.Chunk{ack}, many+1), many, 1)
	}
}

func TestBundleAtTheEnds(t *testing.T) {
	laid(t, "88 bytes at 100", 100, []api.Chunk{data(72)}, 1)
	laid(t, "87 bytes and a byte 0 at 100", 100, []api.Chunk{data(71)}, 1)
	unbundled(t, "89 bytes at 100", 100, []api.Chunk{data(73)}, 2)
	unbundled(t, "89 bytes and three bytes 0 at 103", 103, []api.Chunk{data(73)}, 2)
	laid(t, "92 bytes at 104", 104, []api.Chunk{data(73)}, 1)
	laid(t, "1488 bytes at 1500", 1500, []api.Chunk{data(1472)}, 1)
	unbundled(t, "1492 bytes at 1500", 1500, []api.Chunk{data(1473)}, 2)
}

func TestBundleNeverGoesBackToAnEarlierRow(t *testing.T) {
	// The last one would fit into the first row.
	laid(t, "a small one behind two great ones", 100, []api.Chunk{sized(200, 80), sized(201, 88), ack, ack}, 1, 1, 2)
	laid(t, "small ones between great ones", 100, []api.Chunk{sized(200, 84), ack, sized(201, 84), ack, ack}, 2, 2, 1)
}

func TestBundleOfManyRows(t *testing.T) {
	laid(t, "seven of 40", 100, slices.Repeat([]api.Chunk{data(24)}, 7), 2, 2, 2, 1)
	laid(t, "ten of 300", 1500, slices.Repeat([]api.Chunk{data(284)}, 10), 4, 4, 2)
	got, e := bundled(t, "thousands", 1500, slices.Repeat([]api.Chunk{ack, data(8)}, 2000)...)
	if e != 0 || len(got) != (2000*28+1487)/1488 {
		t.Errorf("thousands: %d rows, %d", len(got), e)
	}
}

func TestBundleOfChunksThatMayNotBe(t *testing.T) {
	long := data(1489)
	for _, bad := range bads {
		for _, l := range [][]api.Chunk{
			{bad.chunk}, {bad.chunk, ack}, {ack, bad.chunk, ack}, {ack, ack, bad.chunk},
			{long, bad.chunk}, {bad.chunk, long}, {long, ack, bad.chunk}, {full(1), long, bad.chunk, long},
		} {
			for _, mtu := range []int{100, 1500} {
				unbundled(t, fmt.Sprintf("one with %d", bad.why), mtu, l, bad.why)
			}
		}
		for _, other := range bads {
			unbundled(t, "two that may not be", 100, []api.Chunk{ack, bad.chunk, other.chunk}, bad.why)
		}
	}
}

func TestBundleOfOneThatIsTooLong(t *testing.T) {
	for _, long := range []api.Chunk{data(1473), data(65508), sized(200, 65536), {Kind: api.KInit, Params: []api.Param{{Type: 7, Body: make([]byte, 1480)}}}} {
		unbundled(t, "alone", 1500, []api.Chunk{long}, 2)
		unbundled(t, "ahead", 1500, []api.Chunk{long, ack}, 2)
		unbundled(t, "between", 1500, []api.Chunk{ack, long, ack}, 2)
		unbundled(t, "behind", 1500, []api.Chunk{ack, ack, long}, 2)
	}
}

func TestBundleOfThoseThatStandAlone(t *testing.T) {
	for _, k := range alones {
		one := full(k)
		laid(t, "first", 1500, []api.Chunk{one, ack, ack}, 1, 2)
		laid(t, "in the middle", 1500, []api.Chunk{ack, one, ack}, 1, 1, 1)
		laid(t, "in the middle of more", 1500, []api.Chunk{ack, ack, one, ack, ack}, 2, 1, 2)
		laid(t, "last", 1500, []api.Chunk{ack, ack, one}, 2, 1)
		for _, other := range alones {
			laid(t, "side by side", 1500, []api.Chunk{one, full(other)}, 1, 1)
			laid(t, "side by side among others", 1500, []api.Chunk{ack, one, full(other), one, ack, ack}, 1, 1, 1, 1, 2)
		}
		for _, other := range friendly() {
			laid(t, "ahead of a kind", 1500, []api.Chunk{one, full(other), full(other)}, 1, 2)
			laid(t, "behind a kind", 1500, []api.Chunk{full(other), one}, 1, 1)
		}
	}
}

func TestAnyBundles(t *testing.T) {
	r := rand.New(rand.NewSource(5))
	seen := map[api.Errno]int{}
	for i := range 4000 {
		mtu := 100 + r.Intn(1401)
		if r.Intn(3) > 0 {
			mtu = 98 + r.Intn(60)
		}
		_, e := bundled(t, fmt.Sprintf("bundle %d", i), mtu, anyChunks(r, 30)...)
		seen[e]++
	}
	for _, e := range []api.Errno{0, 1, 62, 63, 61, 3, 2} {
		if seen[e] == 0 {
			t.Errorf("%d did not come", e)
		}
	}
}

// P7.4

func TestSameOfTheHead(t *testing.T) {
	for _, l := range [][]api.Chunk{nil, {ack}, {data(3), full(api.KSack)}} {
		p := of(l...)
		if !Same(p, copied(p)) || !Same(copied(p), p) {
			t.Errorf("a packet is not the same as its copy: %v", p)
		}
		others := map[string]api.Packet{}
		for bit := range 16 {
			from, to := p, p
			from.From ^= 1 << bit
			to.To ^= 1 << bit
			others[fmt.Sprintf("From's bit %d", bit)] = from
			others[fmt.Sprintf("To's bit %d", bit)] = to
		}
		for bit := range 32 {
			tag := p
			tag.Tag ^= 1 << bit
			others[fmt.Sprintf("Tag's bit %d", bit)] = tag
		}
		turned := p
		turned.From, turned.To = p.To, p.From
		others["From and To turned round"] = turned
		for name, q := range others {
			if Same(p, q) || Same(q, p) {
				t.Errorf("%s: the same", name)
			}
		}
	}
}

// sameChunks tells whether two packets that have these chunks are the same, each way round.
func sameChunks(t *testing.T, name string, a, b []api.Chunk, want bool) {
	t.Helper()
	if Same(of(a...), of(b...)) != want || Same(of(b...), of(a...)) != want {
		t.Errorf("%s: Same is not %v", name, want)
	}
}

func TestSameOfChunks(t *testing.T) {
	a, b, c := data(3), full(api.KNrSack), full(api.KError)
	sameChunks(t, "alike", []api.Chunk{a, b, c}, copies([]api.Chunk{a, b, c}), true)
	sameChunks(t, "one is another", []api.Chunk{a, b, c}, []api.Chunk{a, a, c}, false)
	sameChunks(t, "the first one is another", []api.Chunk{a, b, c}, []api.Chunk{b, b, c}, false)
	sameChunks(t, "the last one is another", []api.Chunk{a, b, c}, []api.Chunk{a, b, b}, false)
	sameChunks(t, "another order", []api.Chunk{a, b, c}, []api.Chunk{b, a, c}, false)
	sameChunks(t, "another order", []api.Chunk{a, b, c}, []api.Chunk{a, c, b}, false)
	sameChunks(t, "one fewer", []api.Chunk{a, b, c}, []api.Chunk{a, b}, false)
	sameChunks(t, "one fewer ahead", []api.Chunk{a, b, c}, []api.Chunk{b, c}, false)
	sameChunks(t, "one twice", []api.Chunk{a}, []api.Chunk{a, a}, false)
	sameChunks(t, "none", []api.Chunk{a}, nil, false)
	for _, change := range []func(*api.Chunk){
		func(c *api.Chunk) { c.Kind++ }, func(c *api.Chunk) { c.Flags++ }, func(c *api.Chunk) { c.TSN++ }, func(c *api.Chunk) { c.Stream++ },
		func(c *api.Chunk) { c.SSN++ }, func(c *api.Chunk) { c.Proto++ }, func(c *api.Chunk) { c.Tag++ }, func(c *api.Chunk) { c.Window++ },
		func(c *api.Chunk) { c.Out++ }, func(c *api.Chunk) { c.In++ }, func(c *api.Chunk) { c.Gaps = make([]api.Gap, 1) }, func(c *api.Chunk) { c.NR = make([]api.Gap, 1) },
		func(c *api.Chunk) { c.Dups = make([]uint32, 1) }, func(c *api.Chunk) { c.Body = []byte{9} }, func(c *api.Chunk) { c.Params = make([]api.Param, 1) },
	} {
		x := data(3)
		change(&x)
		sameChunks(t, "one field of one chunk", []api.Chunk{b, data(3), c}, []api.Chunk{b, x, c}, false)
	}
}

func TestSameOfNilAndEmpty(t *testing.T) {
	sameChunks(t, "no chunks", nil, []api.Chunk{}, true)
	sameChunks(t, "empty lists of a chunk", []api.Chunk{{Kind: 16, Gaps: []api.Gap{}, NR: []api.Gap{}, Dups: []uint32{}, Body: []byte{}, Params: []api.Param{}}}, []api.Chunk{{Kind: 16}}, true)
	sameChunks(t, "an empty parameter", []api.Chunk{{Kind: 6, Params: []api.Param{{Type: 1, Body: []byte{}}}}}, []api.Chunk{{Kind: 6, Params: []api.Param{{Type: 1}}}}, true)
	if !Same(api.Packet{}, api.Packet{Chunks: []api.Chunk{}}) {
		t.Error("zero packets are not the same")
	}
}

func TestSameOfPacketsThatMayNotBe(t *testing.T) {
	for _, bad := range bads {
		p := api.Packet{Chunks: []api.Chunk{full(1), bad.chunk}}
		if !Same(p, copied(p)) || Same(p, of(p.Chunks...)) || Same(p, api.Packet{Chunks: p.Chunks[:1]}) {
			t.Errorf("Same of a packet with %d", bad.why)
		}
	}
}

// P7.5

func TestDecodeOfEncode(t *testing.T) {
	for _, p := range goodPackets() {
		b, e := Encode(p)
		if e != 0 {
			t.Fatalf("Encode: %d", e)
		}
		q, at, e := Decode(b)
		if e != 0 || at != 0 || !Same(p, q) || shown(p) != shown(q) {
			t.Errorf("Decode of Encode = %d chunks, %d, %d", len(q.Chunks), at, e)
		}
		h, e := Head(b)
		if e != 0 || !Same(h, api.Packet{From: p.From, To: p.To, Tag: p.Tag}) {
			t.Errorf("Head of Encode = %v, %d", h, e)
		}
	}
}

// P7.6

// turnedBit tells whether an error is told of bytes with a bit turned.
func turnedBit(t *testing.T, b []byte, bit int) {
	t.Helper()
	b[bit/8] ^= 1 << (bit % 8)
	if p, at, e := Decode(b); e == 0 || at != 0 || shown(p) != shown(api.Packet{}) {
		t.Errorf("bit %d of %d bytes turned: %v, %d, %d", bit, len(b), p, at, e)
	}
	if p, e := Head(b); e == 0 || shown(p) != shown(api.Packet{}) {
		t.Errorf("bit %d of %d bytes turned: Head = %v, %d", bit, len(b), p, e)
	}
	b[bit/8] ^= 1 << (bit % 8)
}

func TestOneBitTurned(t *testing.T) {
	for k := range 20 {
		b, _ := Encode(of(full(api.ChunkKind(k))))
		for bit := range 8 * len(b) {
			turnedBit(t, b, bit)
		}
	}
	for _, p := range []api.Packet{of(data(400), full(api.KSack), ack), {From: 1, To: 1, Chunks: []api.Chunk{ack}}, {From: 65535, To: 65535, Tag: 1<<32 - 1, Chunks: []api.Chunk{data(1)}}} {
		b, _ := Encode(p)
		for bit := range 8 * len(b) {
			turnedBit(t, b, bit)
		}
	}
	great, _ := Encode(of(sized(200, 65524)))
	for bit := 0; bit < 8*len(great); bit += 10007 {
		turnedBit(t, great, bit)
	}
	turnedBit(t, great, 8*len(great)-1)
}

// P7.7

func TestAsFewRows(t *testing.T) {
	r := rand.New(rand.NewSource(3))
	for range 3000 {
		mtu := 100 + r.Intn(150)
		var l []api.Chunk
		for _, c := range anyChunks(r, 40) {
			if chunk.Check(c) == 0 && fits(mtu, []api.Chunk{c}) {
				l = append(l, c)
			}
		}
		got, e := Bundle(mtu, l...)
		if e != 0 || shown(slices.Concat(got...)) != shown(l) {
			t.Fatalf("the rows of %d chunks are %v, %d", len(l), counts(got), e)
		}
		for i, row := range got {
			b, e := Encode(of(row...))
			if e != 0 || len(b) > mtu {
				t.Fatalf("row %d is a packet of %d bytes, %d, at %d", i, len(b), e, mtu)
			}
			if i == 0 {
				continue
			}
			if b, e := Encode(of(append(slices.Clone(got[i-1]), row[0])...)); e == 0 && len(b) <= mtu {
				t.Fatalf("row %d's first chunk would fit into the row ahead, at %d", i, mtu)
			}
		}
	}
}

// Rules

// roomy is a list with room behind it, of which the rest is watched.
func roomy[T any](l []T, behind ...T) (narrow, all []T) {
	all = slices.Concat(l, behind)
	return all[:len(l)], all
}

func TestNothingHandedInIsChanged(t *testing.T) {
	chunks, all := roomy([]api.Chunk{data(24), full(api.KNrSack), full(api.KError), data(24)}, full(api.KInit), data(9))
	first := shown(all)
	p := of(chunks...)
	Check(p)
	Encode(p)
	Same(p, p)
	for _, mtu := range []int{99, 100, 150, 1500} {
		Bundle(mtu, chunks...)
	}
	if shown(all) != first || shown(p) != shown(of(chunks...)) {
		t.Error("chunks that were handed in have changed")
	}
	b, whole := roomy(bytesOf(p), some(30, 1)...)
	bytesFirst := slices.Clone(whole)
	Decode(b)
	Head(b)
	for n := range b {
		Decode(b[:n])
		Head(b[:n])
	}
	if !bytes.Equal(whole, bytesFirst) {
		t.Error("bytes that were handed in have changed")
	}
}

// scrub changes all that a chunk's lists hold, and what stands behind them.
func scrub(c api.Chunk) {
	for _, l := range [][]api.Gap{c.Gaps[:cap(c.Gaps)], c.NR[:cap(c.NR)]} {
		for i := range l {
			l[i].Start ^= 0x5555
			l[i].End ^= 0x5555
		}
	}
	for i := range c.Dups[:cap(c.Dups)] {
		c.Dups[:cap(c.Dups)][i] ^= 0x55555555
	}
	for i := range c.Body[:cap(c.Body)] {
		c.Body[:cap(c.Body)][i] ^= 0x55
	}
	for _, p := range c.Params {
		for i := range p.Body[:cap(p.Body)] {
			p.Body[:cap(p.Body)][i] ^= 0x55
		}
	}
	for i := range c.Params[:cap(c.Params)] {
		c.Params[:cap(c.Params)][i].Type ^= 0x55
	}
}

// scrubAll changes all of a list of chunks, and of what stands behind it.
func scrubAll(l []api.Chunk) {
	l = l[:cap(l)]
	for i := range l {
		scrub(l[i])
		l[i].TSN ^= 0x55
		l[i].Kind ^= 0x80
	}
}

// listed are chunks with something in each kind of list.
func listed() []api.Chunk {
	return []api.Chunk{data(24), full(api.KSack), full(api.KNrSack), full(api.KHeartbeat), full(api.KError), full(api.KCookieEcho), full(200), full(api.KInit), full(api.KInitAck), ack, full(api.KAbort)}
}

func TestEncodeKeepsNothing(t *testing.T) {
	p := of(slices.DeleteFunc(listed(), func(c api.Chunk) bool { return slices.Contains(alones, c.Kind) })...)
	b, _ := Encode(p)
	again, _ := Encode(p)
	first := slices.Clone(b)
	scrubAll(p.Chunks)
	if !bytes.Equal(b, first) {
		t.Error("a change of the packet changed its bytes")
	}
	for i := range b[:cap(b)] {
		b[:cap(b)][i] ^= 0x55
	}
	if !bytes.Equal(again, first) {
		t.Error("a change of an answer changed another one")
	}
}

func TestDecodeKeepsNothing(t *testing.T) {
	p := of(slices.DeleteFunc(listed(), func(c api.Chunk) bool { return slices.Contains(alones, c.Kind) })...)
	for _, p := range []api.Packet{p, of(full(api.KInit))} {
		b := bytesOf(p)
		q, _, _ := Decode(b)
		again, _, _ := Decode(b)
		for i := range b {
			b[i] ^= 0x55
		}
		if shown(q) != shown(p) {
			t.Error("a change of the bytes changed the packet")
		}
		scrubAll(q.Chunks)
		if shown(again) != shown(p) {
			t.Error("a change of an answer changed another one")
		}
	}
}

func TestBundleKeepsNothing(t *testing.T) {
	for _, mtu := range []int{100, 200, 1500} {
		l := listed()
		first := shown(l)
		got, _ := Bundle(mtu, l...)
		again, _ := Bundle(mtu, l...)
		scrubAll(l)
		if shown(slices.Concat(got...)) != first {
			t.Error("a change of the chunks changed the rows")
		}
		l = listed()
		got, _ = Bundle(mtu, l...)
		for _, row := range got {
			scrubAll(row)
		}
		if shown(l) != first {
			t.Error("a change of the rows changed the chunks")
		}
		if shown(slices.Concat(again...)) != first {
			t.Error("a change of an answer changed another one")
		}
	}
}

func TestBundlesRowsShareNothing(t *testing.T) {
	// The same lists are in all chunks that are handed in.
	c := full(api.KNrSack)
	causes := full(api.KError)
	l := []api.Chunk{c, c, causes, causes, data(24), data(24), c, causes}
	for _, mtu := range []int{100, 150, 1500} {
		want := copies(l)
		got, _ := Bundle(mtu, l...)
		for i := range got {
			// What stands behind a row is its own, too.
			_ = append(got[i], api.Chunk{Kind: 99})
			for j := range got[i] {
				scrub(got[i][j])
				got[i][j] = api.Chunk{}
				want[len(slices.Concat(got[:i]...))+j] = api.Chunk{}
				if shown(slices.Concat(got...)) != shown(want) {
					t.Fatalf("a change of chunk %d of row %d changed another one", j, i)
				}
			}
		}
	}
}

func TestTheSameAgain(t *testing.T) {
	for _, p := range goodPackets()[:600] {
		a, _ := Encode(p)
		Decode(some(40, 1))
		Encode(of(data(70)))
		b, _ := Encode(p)
		if !bytes.Equal(a, b) {
			t.Fatal("Encode answers something else")
		}
		x, _, _ := Decode(a)
		y, _, _ := Decode(b)
		if shown(x) != shown(y) {
			t.Fatal("Decode answers something else")
		}
	}
	l := listed()
	a, _ := Bundle(150, l...)
	Bundle(100, ack, ack)
	b, _ := Bundle(150, l...)
	if shown(a) != shown(b) {
		t.Error("Bundle answers something else")
	}
}

func FuzzDecode(f *testing.F) {
	for _, p := range goodPackets()[:40] {
		f.Add(bytesOf(p), true)
	}
	f.Add([]byte{}, false)
	f.Add(framed(1, 2, 3, 1, 0, 0, 4), false)
	f.Fuzz(func(t *testing.T, b []byte, seal bool) {
		if seal && len(b) >= 12 {
			b = sealed(b)
		}
		held(t, "any bytes", b)
		p, _, e := Decode(b)
		if e != 0 {
			return
		}
		again, e := Encode(p)
		if e != 0 {
			t.Fatalf("what came may not be: %d", e)
		}
		if q, _, e := Decode(again); e != 0 || !Same(p, q) {
			t.Errorf("what came is another one, there and back: %d", e)
		}
	})
}
