package chunk

import (
	"bytes"
	"encoding/binary"
	"slices"
	"testing"

	"ropewalk/api"
	"ropewalk/param"
)

// some is n bytes that hang on the seed alone.
func some(n int, seed uint32) []byte {
	b := make([]byte, n)
	for i := range b {
		seed = seed*1664525 + 1013904223
		b[i] = byte(seed >> 24)
	}
	return b
}

func gaps(n int) []api.Gap {
	var l []api.Gap
	for i := range n {
		l = append(l, api.Gap{Start: uint16(i*7 + 1), End: uint16(i*7 + 3)})
	}
	return l
}

func dups(n int) []uint32 {
	var l []uint32
	for i := range n {
		l = append(l, uint32(i)*0x01010107)
	}
	return l
}

// beat is a parameter of a heartbeat with a Body of so many bytes.
func beat(n int) api.Param { return api.Param{Type: 1, Body: some(n, 3)} }

// params is n parameters with Bodies of 0 to 9 bytes.
func params(n int) []api.Param {
	var l []api.Param
	for i := range n {
		l = append(l, api.Param{Type: uint16(i * 257), Body: some(i%10, uint32(i))})
	}
	return l
}

func kinds() []api.ChunkKind {
	var l []api.ChunkKind
	for k := range 256 {
		l = append(l, api.ChunkKind(k))
	}
	return l
}

// withBody is a chunk of a kind that has a Body, of so many bytes.
func withBody(k api.ChunkKind, n int) api.Chunk {
	c := whole(k)
	c.Body = some(n, uint32(n))
	return c
}

// withParams is a chunk of a kind that has them.
func withParams(k api.ChunkKind, l ...api.Param) api.Chunk {
	c := whole(k)
	c.Params = l
	return c
}

// report is one with so many Gaps, NR and Dups.
func report(k api.ChunkKind, g, n, d int) api.Chunk {
	c := whole(k)
	c.Gaps, c.NR, c.Dups = gaps(g), gaps(n), dups(d)
	return c
}

// mostBody is the greatest Body of each kind that has one, and of some that nobody knows.
var mostBody = map[api.ChunkKind]int{0: 65519, 10: 65531, 12: 65531, 13: 65531, 15: 65531, 17: 65531, 255: 65531}

// mostParam is the greatest Body of a single parameter, of each kind that has Params.
var mostParam = map[api.ChunkKind]int{1: 65511, 2: 65511, 4: 65527, 5: 65527, 6: 65527, 9: 65527}

// smallChunks may be, and are short enough to be together in a packet.
func smallChunks() []api.Chunk {
	var all []api.Chunk
	for _, k := range kinds() {
		all = append(all, whole(k))
		if hasField(k, "Body") {
			for n := range 10 {
				if k != 0 || n > 0 {
					all = append(all, withBody(k, n))
				}
			}
		}
		// Each flag alone.
		for bit := range 8 {
			if flagsOf(k)>>bit&1 == 1 {
				c := whole(k)
				c.Flags = 1 << bit
				all = append(all, c)
			}
		}
		if k != 0 && k != 4 && k != 5 {
			all = append(all, api.Chunk{Kind: k})
		}
	}
	all = append(all, api.Chunk{Kind: 0, Body: []byte{0}})
	for _, k := range []api.ChunkKind{1, 2, 6, 9} {
		for n := range 5 {
			all = append(all, withParams(k, params(n)...), withParams(k, beat(n)), withParams(k, beat(n), beat(3), beat(n)))
		}
	}
	for n := range 10 {
		all = append(all, withParams(4, beat(n)), withParams(5, beat(n)))
	}
	for _, g := range []int{0, 1, 2, 5} {
		for _, n := range []int{0, 1, 2, 5} {
			all = append(all, report(3, g, 0, n))
			for _, d := range []int{0, 1, 2, 5} {
				all = append(all, report(16, g, n, d))
			}
		}
	}
	// The greatest numbers.
	for _, k := range known {
		c := whole(k)
		for _, name := range valueOf(k) {
			if x := four(&c, name); x != nil {
				*x = 4294967295
			}
			if x := two(&c, name); x != nil {
				*x = 65535
			}
		}
		all = append(all, c)
	}
	return append(all, api.Chunk{Kind: 3, Gaps: []api.Gap{{}, {Start: 65535, End: 65535}, {Start: 9, End: 3}}, Dups: []uint32{0, 4294967295}})
}

// greatChunks may be, at the limits.
func greatChunks() []api.Chunk {
	var all []api.Chunk
	for k, n := range mostBody {
		all = append(all, withBody(k, n), withBody(k, n-1), withBody(k, n-4))
	}
	for k, n := range mostParam {
		all = append(all, withParams(k, beat(n)), withParams(k, beat(n-1)), withParams(k, beat(n-4)))
		if k != 4 && k != 5 {
			all = append(all, withParams(k, params(255)...), withParams(k, params(256)...))
			all = append(all, withParams(k, beat(5), beat(n-12)), withParams(k, beat(n-11), beat(4)), withParams(k, beat(n-10), beat(3)))
		}
	}
	for _, g := range []int{0, 1, 4096} {
		for _, n := range []int{0, 1, 4096} {
			all = append(all, report(3, g, 0, n))
			for _, d := range []int{0, 1, 4096} {
				all = append(all, report(16, g, n, d))
			}
		}
	}
	return all
}

// good are chunks that may be.
func good() []api.Chunk { return append(smallChunks(), greatChunks()...) }

// bad is a chunk that may not be, and why.
type bad struct {
	name  string
	chunk api.Chunk
	why   api.Errno
}

// changed is a chunk with something put into it.
func changed(c api.Chunk, flags uint8, fields ...string) api.Chunk {
	c.Flags |= flags
	for _, name := range fields {
		put(&c, name)
	}
	return c
}

// badChunks have one fault, or two, of which the first one is told.
func badChunks() []bad {
	data, long := withBody(0, 65520), withParams(6, beat(65532))
	noData := api.Chunk{Kind: 0, TSN: 1}
	manyGaps, manyCauses := report(3, 4097, 0, 0), withParams(6, params(257)...)
	all := []bad{
		{"DATA without Body", noData, 62},
		{"DATA with an empty Body", api.Chunk{Kind: 0, Flags: 7, TSN: 1, Stream: 1, SSN: 1, Proto: 1, Body: []byte{}}, 62},
		{"a zero chunk", api.Chunk{}, 62},
		{"257 causes", manyCauses, 3},
		{"257 empty causes", withParams(9, make([]api.Param, 257)...), 3},
		{"257 parameters", withParams(1, params(257)...), 3},
		{"1000 parameters", withParams(2, params(1000)...), 3},
		{"a parameter that is too long", withParams(1, params(3)[1], beat(65532), params(3)[2]), 2},
		{"256 that are too long together", withParams(6, slices.Repeat([]api.Param{beat(65531)}, 256)...), 2},
		{"17 that are too long together", withParams(9, slices.Repeat([]api.Param{beat(4000)}, 17)...), 2},
		{"the bytes between are too many", withParams(9, beat(1), beat(65520)), 2},

		{"flag, no data", changed(noData, 8), 63},
		{"field, no data", changed(noData, 0, "Params"), 63},
		{"flag, no heartbeat", changed(api.Chunk{Kind: 4}, 1), 63},
		{"field, no heartbeat", changed(api.Chunk{Kind: 5}, 0, "Body"), 63},
		{"flag, many gaps", changed(manyGaps, 1), 63},
		{"field, many gaps", changed(manyGaps, 0, "NR"), 63},
		{"flag, many causes", changed(manyCauses, 2), 63},
		{"field, many causes", changed(manyCauses, 0, "TSN"), 63},
		{"flag, a long cause", changed(long, 128), 63},
		{"field, a long cause", changed(long, 0, "Out"), 63},
		{"flag, a long value", changed(data, 16), 63},
		{"field, a long value", changed(data, 0, "Window"), 63},
		{"many gaps that its kind has not", api.Chunk{Kind: 8, Gaps: gaps(4097)}, 63},
		{"many NR that its kind has not", api.Chunk{Kind: 3, NR: gaps(4097)}, 63},
		{"many Dups that its kind has not", api.Chunk{Kind: 7, Dups: dups(4097)}, 63},
		{"many parameters that its kind has not", api.Chunk{Kind: 3, Params: params(257)}, 63},
		{"a long parameter that its kind has not", api.Chunk{Kind: 10, Params: []api.Param{beat(65532)}}, 63},
		{"a long Body that its kind has not", api.Chunk{Kind: 6, Body: some(65532, 1)}, 63},

		{"no heartbeat, many", withParams(4, params(257)...), 61},
		{"no heartbeat, many that are", withParams(4, slices.Repeat([]api.Param{beat(1)}, 257)...), 61},
		{"no heartbeat, long", withParams(5, api.Param{Type: 2, Body: some(65532, 1)}), 61},
		{"no heartbeat, two that are too long together", withParams(4, beat(40000), beat(40000)), 61},
		{"no heartbeat, two and one is too long", withParams(5, beat(65532), beat(1)), 61},
		{"many that are too long", withParams(6, slices.Repeat([]api.Param{beat(65532)}, 257)...), 3},
		{"many, the last one too long", withParams(1, append(params(256), beat(65532))...), 3},
		{"many, too long together", withParams(9, slices.Repeat([]api.Param{beat(300)}, 257)...), 3},
		{"many gaps, too long together", report(3, 20000, 0, 0), 3},
		{"many of all, too long together", report(16, 5000, 5000, 7000), 3},
	}
	for _, n := range []int{0, 1, 4096, 4097} {
		all = append(all,
			bad{"gaps of a SACK", report(3, 4097, 0, n), 3}, bad{"dups of a SACK", report(3, n, 0, 4097), 3})
		for _, m := range []int{0, 1, 4096, 4097} {
			all = append(all, bad{"gaps", report(16, 4097, n, m), 3}, bad{"NR", report(16, n, 4097, m), 3}, bad{"dups", report(16, n, m, 4097), 3})
		}
	}
	for _, k := range []api.ChunkKind{4, 5} {
		two := api.Param{Type: 2}
		for _, l := range [][]api.Param{nil, {}, {beat(1), beat(1)}, {two}, {beat(1), two}, {two, beat(1)}, {{Type: 0}}, {{Type: 257}}, {beat(1), beat(1), beat(1)}} {
			all = append(all, bad{"no heartbeat", withParams(k, l...), 61})
		}
	}
	for k, n := range mostBody {
		for _, more := range []int{1, 2, 5, 4096, 65536, 65537, 65536 * 3, 1 << 20} {
			all = append(all, bad{"a long Body", withBody(k, n+more), 2})
		}
	}
	for k, n := range mostParam {
		for _, more := range []int{1, 2, 4, 5, 20, 21, 65536, 1 << 20} {
			all = append(all, bad{"a long parameter", withParams(k, beat(n+more)), 2})
		}
		if k != 4 && k != 5 {
			all = append(all, bad{"a value of one byte too many", withParams(k, beat(5), beat(n-11)), 2}, bad{"the last byte is one too many", withParams(k, beat(n-10), beat(4)), 2})
		}
	}
	return append(all, strangeFields()...)
}

// strangeFields are chunks of every kind with one field, or one flag, that it has not: alone, and besides all its own.
func strangeFields() []bad {
	var all []bad
	for _, k := range kinds() {
		for _, name := range names {
			if !hasField(k, name) {
				all = append(all, bad{"with " + name, changed(whole(k), 0, name), 63}, bad{"just " + name, changed(api.Chunk{Kind: k}, 0, name), 63})
			}
		}
		for bit := range 8 {
			if flagsOf(k)>>bit&1 == 0 {
				all = append(all, bad{"with a flag", changed(whole(k), 1<<bit), 63}, bad{"just a flag", changed(api.Chunk{Kind: k}, 1<<bit), 63})
			}
		}
	}
	return all
}

// P6.1

func TestCheckOfGoodChunks(t *testing.T) {
	for i, c := range good() {
		if e := Check(c); e != api.OK || whyNot(c) != api.OK {
			t.Errorf("chunk %d of kind %d: %d", i, c.Kind, e)
		}
	}
}

func TestCheckOfBadChunks(t *testing.T) {
	for _, x := range badChunks() {
		if e := Check(x.chunk); e != x.why || whyNot(x.chunk) != x.why {
			t.Errorf("%s, kind %d: %d, want %d", x.name, x.chunk.Kind, e, x.why)
		}
	}
}

// A chunk with none of the fields of its kind may be, but where it needs one.
func TestCheckOfNoFields(t *testing.T) {
	for _, k := range kinds() {
		want := map[api.ChunkKind]api.Errno{0: 62, 4: 61, 5: 61}[k]
		if e := Check(api.Chunk{Kind: k}); e != want {
			t.Errorf("kind %d: %d, want %d", k, e, want)
		}
		empty := api.Chunk{Kind: k, Gaps: []api.Gap{}, NR: []api.Gap{}, Dups: []uint32{}, Body: []byte{}, Params: []api.Param{}}
		if e := Check(empty); e != want {
			t.Errorf("kind %d with empty lists: %d, want %d", k, e, want)
		}
	}
}

// Each field of a kind may stand alone, and each may be missing.
func TestCheckOfEachField(t *testing.T) {
	for _, k := range kinds() {
		for _, name := range names {
			alone := changed(api.Chunk{Kind: k}, 0, name)
			if e := Check(alone); e != whyNot(alone) {
				t.Errorf("kind %d, just %s: %d", k, name, e)
			}
			c := api.Chunk{Kind: k, Flags: flagsOf(k)}
			for _, other := range names {
				if other != name && hasField(k, other) {
					put(&c, other)
				}
			}
			if e := Check(c); e != whyNot(c) {
				t.Errorf("kind %d without %s: %d", k, name, e)
			}
		}
	}
}

func TestCheckOfEveryFlag(t *testing.T) {
	for _, k := range kinds() {
		for flags := range 256 {
			c := whole(k)
			c.Flags = uint8(flags)
			want := api.OK
			if uint8(flags)&^flagsOf(k) != 0 {
				want = api.ErrKind
			}
			if e := Check(c); e != want {
				t.Fatalf("kind %d, flags %d: %d", k, flags, e)
			}
		}
	}
}

func TestCheckAtTheLongestValue(t *testing.T) {
	for k, n := range mostBody {
		if l := len(valueBytesOf(withBody(k, n))); l != 65531 {
			t.Fatalf("kind %d: %d", k, l)
		}
		if e := Check(withBody(k, n)); e != api.OK {
			t.Errorf("kind %d, 65531 bytes: %d", k, e)
		}
		if e := Check(withBody(k, n+1)); e != api.ErrLong {
			t.Errorf("kind %d, 65532 bytes: %d", k, e)
		}
	}
	for k, n := range mostParam {
		if l := len(valueBytesOf(withParams(k, beat(n)))); l != 65531 {
			t.Fatalf("kind %d: %d", k, l)
		}
		if e := Check(withParams(k, beat(n))); e != api.OK {
			t.Errorf("kind %d, 65531 bytes: %d", k, e)
		}
		if e := Check(withParams(k, beat(n+1))); e != api.ErrLong {
			t.Errorf("kind %d, 65532 bytes: %d", k, e)
		}
	}
}

func TestNumbers(t *testing.T) {
	errors := []api.Errno{api.ErrLong, api.ErrMany, api.ErrTlv, api.ErrCut, api.ErrField, api.ErrNoData, api.ErrKind}
	if !slices.Equal(errors, []api.Errno{2, 3, 50, 60, 61, 62, 63}) {
		t.Errorf("%d", errors)
	}
	limits := []int{api.MaxGaps, api.MaxValue, api.MaxPacket, api.MaxParams, api.MaxBody}
	if !slices.Equal(limits, []int{4096, 65531, 65536, 256, 65531}) {
		t.Errorf("%d", limits)
	}
	table := []api.ChunkKind{api.KData, api.KInit, api.KInitAck, api.KSack, api.KHeartbeat, api.KHeartAck, api.KAbort, api.KShutdown, api.KShutAck, api.KError, api.KCookieEcho, api.KCookieAck, api.KShutDone, api.KNrSack}
	if !slices.Equal(table, known) {
		t.Errorf("%d", table)
	}
}

// P6.2

// written are chunks and their bytes, written out.
var written = []struct {
	chunk api.Chunk
	bytes []byte
}{
	{api.Chunk{Kind: 0, Flags: 3, TSN: 1, Stream: 2, SSN: 3, Body: []byte("hi")}, []byte{0, 3, 0, 18, 0, 0, 0, 1, 0, 2, 0, 3, 0, 0, 0, 0, 104, 105, 0, 0}},
	{api.Chunk{Kind: 0, Flags: 4, TSN: 0x01020304, Stream: 0x0506, SSN: 0x0708, Proto: 0x090A0B0C, Body: []byte{13}}, []byte{0, 4, 0, 17, 1, 2, 3, 4, 5, 6, 7, 8, 9, 10, 11, 12, 13, 0, 0, 0}},
	{api.Chunk{Kind: 1, TSN: 0x0D0E0F10, Tag: 0x01020304, Window: 0x05060708, Out: 0x090A, In: 0x0B0C}, []byte{1, 0, 0, 20, 1, 2, 3, 4, 5, 6, 7, 8, 9, 10, 11, 12, 13, 14, 15, 16}},
	{api.Chunk{Kind: 2, TSN: 5, Tag: 1, Window: 2, Out: 3, In: 4, Params: []api.Param{{Type: 7, Body: []byte{1, 2, 3}}, {Type: 0x8001, Body: []byte{9}}}}, []byte{2, 0, 0, 33, 0, 0, 0, 1, 0, 0, 0, 2, 0, 3, 0, 4, 0, 0, 0, 5, 0, 7, 0, 7, 1, 2, 3, 0, 128, 1, 0, 5, 9, 0, 0, 0}},
	{api.Chunk{Kind: 3, TSN: 5, Window: 9}, []byte{3, 0, 0, 16, 0, 0, 0, 5, 0, 0, 0, 9, 0, 0, 0, 0}},
	{api.Chunk{Kind: 3, TSN: 5, Window: 9, Gaps: []api.Gap{{Start: 2, End: 3}, {Start: 260, End: 65535}}, Dups: []uint32{4}}, []byte{3, 0, 0, 28, 0, 0, 0, 5, 0, 0, 0, 9, 0, 2, 0, 1, 0, 2, 0, 3, 1, 4, 255, 255, 0, 0, 0, 4}},
	{api.Chunk{Kind: 4, Params: []api.Param{{Type: 1, Body: []byte{7}}}}, []byte{4, 0, 0, 9, 0, 1, 0, 5, 7, 0, 0, 0}},
	{api.Chunk{Kind: 5, Params: []api.Param{{Type: 1}}}, []byte{5, 0, 0, 8, 0, 1, 0, 4}},
	{api.Chunk{Kind: 6}, []byte{6, 0, 0, 4}},
	{api.Chunk{Kind: 6, Flags: 1, Params: []api.Param{{Type: 12, Body: []byte("bye")}}}, []byte{6, 1, 0, 11, 0, 12, 0, 7, 'b', 'y', 'e', 0}},
	{api.Chunk{Kind: 7, TSN: 0xFEDCBA98}, []byte{7, 0, 0, 8, 0xFE, 0xDC, 0xBA, 0x98}},
	{api.Chunk{Kind: 8}, []byte{8, 0, 0, 4}},
	{api.Chunk{Kind: 9, Params: []api.Param{{Type: 1, Body: []byte{1, 2, 0, 0}}}}, []byte{9, 0, 0, 12, 0, 1, 0, 8, 1, 2, 0, 0}},
	{api.Chunk{Kind: 10}, []byte{10, 0, 0, 4}},
	{api.Chunk{Kind: 10, Body: []byte{1, 2, 3}}, []byte{10, 0, 0, 7, 1, 2, 3, 0}},
	{api.Chunk{Kind: 11}, []byte{11, 0, 0, 4}},
	{api.Chunk{Kind: 12, Flags: 255}, []byte{12, 255, 0, 4}},
	{api.Chunk{Kind: 14, Flags: 1}, []byte{14, 1, 0, 4}},
	{api.Chunk{Kind: 16, TSN: 1, Window: 2, Gaps: []api.Gap{{Start: 3, End: 4}}, NR: []api.Gap{{Start: 5, End: 6}, {Start: 7, End: 8}}, Dups: []uint32{9, 10, 11}}, []byte{16, 0, 0, 44, 0, 0, 0, 1, 0, 0, 0, 2, 0, 1, 0, 2, 0, 3, 0, 0, 0, 3, 0, 4, 0, 5, 0, 6, 0, 7, 0, 8, 0, 0, 0, 9, 0, 0, 0, 10, 0, 0, 0, 11}},
	{api.Chunk{Kind: 16}, []byte{16, 0, 0, 20, 0, 0, 0, 0, 0, 0, 0, 0, 0, 0, 0, 0, 0, 0, 0, 0}},
	{api.Chunk{Kind: 200, Flags: 200, Body: []byte{1}}, []byte{200, 200, 0, 5, 1, 0, 0, 0}},
}

func TestEncodeOfWrittenChunks(t *testing.T) {
	for _, w := range written {
		if b, e := Encode(w.chunk); e != api.OK || !bytes.Equal(b, w.bytes) {
			t.Errorf("kind %d: %v, %d", w.chunk.Kind, b, e)
		}
		if n := Size(w.chunk); n != len(w.bytes) {
			t.Errorf("kind %d: Size = %d", w.chunk.Kind, n)
		}
		if c, n, e := Decode(w.bytes); e != api.OK || n != len(w.bytes) || !alike(c, w.chunk) {
			t.Errorf("%v: %+v, %d, %d", w.bytes, c, n, e)
		}
	}
}

func TestEncodeOfGoodChunks(t *testing.T) {
	for i, c := range good() {
		want := bytesOf(c)
		if b, e := Encode(c); e != api.OK || !bytes.Equal(b, want) {
			t.Errorf("chunk %d of kind %d: %d bytes, %d", i, c.Kind, len(b), e)
		}
		if n := Size(c); n != len(want) || n%4 != 0 {
			t.Errorf("chunk %d of kind %d: Size = %d, want %d", i, c.Kind, n, len(want))
		}
	}
}

func TestEncodeOfBadChunks(t *testing.T) {
	ahead := []api.Chunk{whole(8), whole(0), whole(3)}
	for _, x := range badChunks() {
		if b, e := Encode(x.chunk); e != x.why || len(b) != 0 {
			t.Errorf("%s, kind %d: %d bytes, %d", x.name, x.chunk.Kind, len(b), e)
		}
		if n := Size(x.chunk); n != 0 {
			t.Errorf("%s, kind %d: Size = %d", x.name, x.chunk.Kind, n)
		}
		// Behind others, ahead of others, and between.
		for at := range len(ahead) + 1 {
			if b, e := Encode(slices.Insert(slices.Clone(ahead), at, x.chunk)...); e != x.why || len(b) != 0 {
				t.Errorf("%s, kind %d, at %d: %d bytes, %d", x.name, x.chunk.Kind, at, len(b), e)
			}
		}
	}
}

func TestEncodeTellsTheFirstFault(t *testing.T) {
	kind, noData, field := changed(whole(8), 1), api.Chunk{Kind: 0}, api.Chunk{Kind: 4}
	many, long := report(3, 4097, 0, 0), withBody(10, 65532)
	all := []struct {
		chunk api.Chunk
		why   api.Errno
	}{{kind, 63}, {noData, 62}, {field, 61}, {many, 3}, {long, 2}}
	for _, a := range all {
		for _, b := range all {
			if _, e := Encode(whole(11), a.chunk, whole(11), b.chunk); e != a.why {
				t.Errorf("%d, not %d", e, a.why)
			}
		}
		// One that may not be is told, though those ahead of it are too long together.
		if _, e := Encode(withBody(10, 65531), withBody(10, 65531), a.chunk); e != a.why {
			t.Errorf("behind too many bytes: %d, not %d", e, a.why)
		}
	}
}

func TestEncodeOfNone(t *testing.T) {
	if b, e := Encode(); e != api.OK || len(b) != 0 {
		t.Errorf("%v, %d", b, e)
	}
	for _, l := range [][]api.Chunk{nil, {}, smallChunks()[:0]} {
		if b, e := Encode(l...); e != api.OK || len(b) != 0 {
			t.Errorf("%v, %d", b, e)
		}
	}
}

func TestEncodeOfSeveral(t *testing.T) {
	all := smallChunks()
	for n := range 40 {
		l := all[n*7 : n*7+n]
		if b, e := Encode(l...); e != api.OK || !bytes.Equal(b, bytesOf(l...)) {
			t.Errorf("%d: %d bytes, %d", n, len(b), e)
		}
	}
	for i, c := range all {
		d := all[(i*31+5)%len(all)]
		if b, e := Encode(c, d); e != api.OK || !bytes.Equal(b, append(bytesOf(c), bytesOf(d)...)) {
			t.Errorf("kinds %d, %d: %v, %d", c.Kind, d.Kind, b, e)
		}
	}
}

// togethers are lists of chunks of 65536 bytes, each with a chunk that has too many bytes for it.
func togethers() [][]api.Chunk {
	return [][]api.Chunk{
		{withBody(10, 65531)}, {withBody(10, 65529)}, {withBody(0, 65517)}, {withBody(255, 65531)},
		{withBody(10, 65528-1), whole(8)}, {whole(8), withBody(10, 65525)},
		slices.Repeat([]api.Chunk{{Kind: 11}}, 16384),
		append(slices.Repeat([]api.Chunk{withBody(17, 1)}, 8191), withBody(17, 4)),
		{withBody(10, 32764), withBody(10, 32764)},
		{report(16, 4096, 4096, 4096), withBody(10, 65536-49172-4)},
	}
}

func TestEncodeOfThePacketsBytes(t *testing.T) {
	for i, l := range togethers() {
		b, e := Encode(l...)
		if e != api.OK || len(b) != 65536 || !bytes.Equal(b, bytesOf(l...)) {
			t.Errorf("list %d: %d bytes, %d", i, len(b), e)
		}
		for _, more := range []api.Chunk{{Kind: 8}, withBody(0, 1), withBody(10, 65531)} {
			if b, e := Encode(append(slices.Clone(l), more)...); e != api.ErrLong || len(b) != 0 {
				t.Errorf("list %d, and more: %d bytes, %d", i, len(b), e)
			}
		}
	}
	for _, l := range [][]api.Chunk{slices.Repeat([]api.Chunk{withBody(10, 65531)}, 65536), slices.Repeat([]api.Chunk{{Kind: 11}}, 16385)} {
		if b, e := Encode(l...); e != api.ErrLong || len(b) != 0 {
			t.Errorf("%d chunks: %d bytes, %d", len(l), len(b), e)
		}
	}
	// The bytes 0 count, too: the lengths alone come to 65534.
	if b, e := Encode(withBody(10, 65525), withBody(17, 1)); e != api.ErrLong || len(b) != 0 {
		t.Errorf("%d bytes, %d", len(b), e)
	}
}

// P6.3

// held tells of bytes for which Decode and the chapter's words differ.
func held(t *testing.T, name string, b []byte) api.Errno {
	t.Helper()
	want, wantN, wantError := chunkOf(b)
	c, n, e := Decode(b)
	if e != wantError || n != wantN || !alike(c, want) {
		t.Errorf("%s, %v: %+v, %d, %d; want %+v, %d, %d", name, b[:min(len(b), 40)], c.Kind, n, e, want.Kind, wantN, wantError)
	}
	return e
}

// fails wants an error, and nothing else.
func fails(t *testing.T, name string, b []byte, want api.Errno) {
	t.Helper()
	held(t, name, b)
	if c, n, e := Decode(b); e != want || n != 0 || !alike(c, api.Chunk{}) {
		t.Errorf("%s, %v: %+v, %d, %d; want %d", name, b[:min(len(b), 40)], c.Kind, n, e, want)
	}
}

// reads wants a chunk of so many bytes.
func reads(t *testing.T, name string, b []byte, want api.Chunk, wantN int) {
	t.Helper()
	held(t, name, b)
	if c, n, e := Decode(b); e != api.OK || n != wantN || !alike(c, want) {
		t.Errorf("%s, %v: %+v, %d, %d; want %d", name, b[:min(len(b), 40)], c.Kind, n, e, wantN)
	}
}

func TestDecodeOfTheExamples(t *testing.T) {
	reads(t, "flags", []byte{8, 9, 0, 4}, api.Chunk{Kind: 8}, 4)
	fails(t, "one too long", []byte{8, 0, 0, 5, 0}, 61)
	fails(t, "no data", append([]byte{0, 3, 0, 16}, make([]byte, 12)...), 62)
	fails(t, "no data", append([]byte{0, 3, 0, 16}, make([]byte, 20)...), 62)
	fails(t, "no data", append([]byte{0, 255, 0, 16}, some(12, 8)...), 62)
}

func TestDecodeOfTooFewBytes(t *testing.T) {
	fails(t, "nil", nil, 60)
	fails(t, "none", []byte{}, 60)
	for _, k := range kinds() {
		whole := []byte{byte(k), 0, 0, 4, 0, 0, 0, 0}
		for n := range 4 {
			fails(t, "no head", whole[:n], 60)
		}
		for n := 4; n <= 8; n++ {
			held(t, "just a head", whole[:n])
			for length := range 12 {
				b := bytes.Clone(whole[:n])
				b[3] = byte(length)
				if length < 4 || length > n {
					fails(t, "a wrong length", b, 60)
				}
				held(t, "a length", b)
				// Both bytes of it count.
				b[2], b[3] = 1, byte(length)
				fails(t, "a length of 256 more", b, 60)
			}
		}
	}
}

func TestDecodeOfLengthsAboveTheBytes(t *testing.T) {
	for _, w := range written {
		length := int(binary.BigEndian.Uint16(w.bytes[2:]))
		for n := range length {
			fails(t, "cut", w.bytes[:n], 60)
		}
		for _, more := range []int{1, 2, 3, 4, 100, 65535 - length} {
			b := bytes.Clone(w.bytes[:length])
			binary.BigEndian.PutUint16(b[2:], uint16(length+more))
			fails(t, "a length above", b, 60)
		}
	}
	for k, n := range mostBody {
		b := bytesOf(withBody(k, n))
		fails(t, "one byte of 65535 is missing", b[:65534], 60)
		reads(t, "all 65535", b[:65535], withBody(k, n), 65535)
	}
}

// Kinds, and the lengths of values that are theirs: from the first one to the last one.
func TestDecodeOfEveryLength(t *testing.T) {
	for _, k := range kinds() {
		least, most := fixed(k), fixed(k)
		switch {
		case k == 0:
			least, most = 13, 100
		case hasField(k, "Body"):
			most = 100
		case hasField(k, "Params"):
			continue
		}
		for n := range 40 {
			b := headed(k, 0, make([]byte, n))
			want := api.OK
			if k == 0 && n == 12 {
				want = 62
			} else if n < least || n > most {
				want = 61
			}
			if e := held(t, "a length", b); e != want {
				t.Errorf("kind %d, %d bytes: %d, want %d", k, n, e, want)
			}
		}
	}
}

func TestDecodeOfInitsThatAreTooShort(t *testing.T) {
	for _, k := range []api.ChunkKind{1, 2} {
		for n := range 16 {
			fails(t, "no INIT", headed(k, 0, some(n, 4)), 61)
		}
		reads(t, "an INIT of 16", headed(k, 0, make([]byte, 16)), api.Chunk{Kind: k}, 20)
		for n := 17; n < 20; n++ {
			fails(t, "no parameter", headed(k, 0, make([]byte, n)), 50)
		}
	}
}

// One byte less, or more, is no value, but of those that end with bytes, or parameters, of which there may be more.
func TestDecodeOfOneByteTooFewAndTooMany(t *testing.T) {
	for _, c := range append(smallChunks(), greatChunks()...) {
		v := valueBytesOf(c)
		if len(v) > 0 {
			held(t, "one too few", headed(c.Kind, c.Flags, v[:len(v)-1]))
		}
		if len(v) < 65531 {
			held(t, "one too many", headed(c.Kind, c.Flags, append(bytes.Clone(v), 0)))
		}
		if !hasField(c.Kind, "Body") && !hasField(c.Kind, "Params") {
			if len(v) > 0 {
				fails(t, "one too few", headed(c.Kind, c.Flags, v[:len(v)-1]), 61)
			}
			fails(t, "one too many", headed(c.Kind, c.Flags, append(bytes.Clone(v), 0)), 61)
		}
	}
}

// counted is a report's value with other counts.
func counted(c api.Chunk, counts ...uint16) []byte {
	v := valueBytesOf(c)
	for i, n := range counts {
		binary.BigEndian.PutUint16(v[8+2*i:], n)
	}
	return v
}

func TestDecodeOfCounts(t *testing.T) {
	sack, nr := report(3, 2, 0, 1), report(16, 2, 1, 3)
	reads(t, "as it was", headed(3, 0, counted(sack, 2, 1)), sack, 28)
	reads(t, "as it was", headed(16, 0, counted(nr, 2, 1, 3)), nr, 44)
	for _, counts := range [][]uint16{{1, 1}, {3, 1}, {2, 0}, {2, 2}, {0, 0}, {4096, 4096}, {4096, 0}, {0, 4096}, {258, 1}, {2, 257}} {
		fails(t, "other counts", headed(3, 0, counted(sack, counts...)), 61)
	}
	for _, counts := range [][]uint16{{1, 1, 3}, {2, 0, 3}, {2, 2, 3}, {2, 1, 2}, {2, 1, 4}, {0, 0, 0}, {4096, 4096, 4096}, {2, 4096, 3}} {
		fails(t, "other counts", headed(16, 0, counted(nr, counts...)), 61)
	}
	// As many in all, in other lists: another chunk.
	reads(t, "1 and 2", headed(3, 0, counted(sack, 1, 2)), api.Chunk{Kind: 3, TSN: sack.TSN, Window: sack.Window, Gaps: sack.Gaps[:1], Dups: []uint32{0x0008000A, 0}}, 28)
	reads(t, "0, 6 and 0", headed(16, 0, counted(report(16, 6, 0, 0), 0, 6, 0)), report(16, 0, 6, 0), 44)
}

func TestDecodeOfCountsAboveTheLimit(t *testing.T) {
	for _, n := range []uint16{4097, 5000, 32768, 65535} {
		for _, more := range []int{0, 1, 4, 8, 4 * 4096, 4 * 4097} {
			zero := make([]byte, 12+more)
			for i := range 2 {
				v := bytes.Clone(zero)
				binary.BigEndian.PutUint16(v[8+2*i:], n)
				fails(t, "many of a SACK", headed(3, 0, v), 3)
			}
			zero = make([]byte, 16+more)
			for i := range 3 {
				v := bytes.Clone(zero)
				binary.BigEndian.PutUint16(v[8+2*i:], n)
				fails(t, "many of an NR-SACK", headed(16, 0, v), 3)
			}
		}
	}
	// All of them are there: as many as there may be, and one more.
	reads(t, "4096", headed(3, 0, valueBytesOf(report(3, 4096, 0, 4096))), report(3, 4096, 0, 4096), 16+32768)
	reads(t, "4096", headed(16, 0, valueBytesOf(report(16, 4096, 4096, 4096))), report(16, 4096, 4096, 4096), 20+49152)
	for _, c := range []api.Chunk{report(3, 4097, 0, 0), report(3, 0, 0, 4097), report(3, 4097, 0, 4097), report(16, 4097, 0, 0), report(16, 0, 4097, 0), report(16, 0, 0, 4097), report(16, 4097, 4097, 4097)} {
		fails(t, "4097", headed(c.Kind, 0, valueBytesOf(c)), 3)
	}
}

// A value that ends ahead of its last count is too short, whatever the counts are that it has.
func TestDecodeOfReportsWithoutCounts(t *testing.T) {
	for n := range 12 {
		fails(t, "no SACK", headed(3, 0, bytes.Repeat([]byte{255}, n)), 61)
	}
	for n := range 16 {
		fails(t, "no NR-SACK", headed(16, 0, bytes.Repeat([]byte{255}, n)), 61)
	}
}

// The two bytes 0 of an NR-SACK say nothing.
func TestDecodeOfReservedBytes(t *testing.T) {
	c := report(16, 1, 2, 3)
	for _, x := range []uint16{1, 256, 4097, 65535} {
		reads(t, "reserved", headed(16, 0, counted(c, 1, 2, 3, x)), c, 44)
	}
}

func TestDecodeOfEveryFlag(t *testing.T) {
	for _, k := range kinds() {
		c := whole(k)
		for flags := range 256 {
			want := c
			want.Flags = uint8(flags) & flagsOf(k)
			b := bytesOf(c)
			b[1] = uint8(flags)
			if got, n, e := Decode(b); e != api.OK || n != len(b) || !alike(got, want) {
				t.Fatalf("kind %d, flags %d: %+v, %d, %d", k, flags, got, n, e)
			}
		}
	}
}

// Behind a value may stand anything, and behind the last one from none to all of it.
func TestDecodeOfAnythingBehind(t *testing.T) {
	for _, c := range smallChunks() {
		b := headed(c.Kind, c.Flags, valueBytesOf(c))
		length, total := len(b), len(bytesOf(c))
		for _, filler := range []byte{0, 1, 255} {
			for more := range 9 {
				reads(t, "behind", append(bytes.Clone(b), bytes.Repeat([]byte{filler}, more)...), c, min(length+more, total))
			}
		}
	}
}

func TestDecodeOfParams(t *testing.T) {
	for _, k := range []api.ChunkKind{1, 2, 4, 5, 6, 9} {
		start := make([]byte, fixed(k))
		for _, x := range []struct {
			list []byte
			why  api.Errno
		}{
			{[]byte{0}, 50}, {[]byte{0, 1, 0}, 50}, {[]byte{0, 1, 0, 3}, 50}, {[]byte{0, 1, 0, 5}, 50}, {[]byte{0, 1, 0, 0}, 50},
			{[]byte{0, 1, 0, 4, 0}, 50}, {[]byte{0, 1, 0, 4, 0, 1, 0, 6, 1}, 50}, {[]byte{0, 2, 0, 9, 1, 2, 3, 4}, 50},
			{bytes.Repeat([]byte{0, 1, 0, 4}, 257), 3}, {bytes.Repeat([]byte{0, 2, 0, 4}, 1000), 3},
			{append(bytes.Repeat([]byte{0, 1, 0, 4}, 256), 0), 3}, {append(bytes.Repeat([]byte{0, 1, 0, 4}, 255), 0), 50},
		} {
			fails(t, "no list", headed(k, 0, append(bytes.Clone(start), x.list...)), x.why)
		}
		// What stands behind the last parameter of a value may be any, and is left out.
		for n := range 4 {
			want := api.Chunk{Kind: k, Params: []api.Param{{Type: 1, Body: []byte{7}}}}
			v := append(bytes.Clone(start), append([]byte{0, 1, 0, 5, 7}, bytes.Repeat([]byte{9}, n)...)...)
			b := headed(k, 0, v)
			reads(t, "behind the last parameter", b, want, len(b))
			if n == 3 {
				reads(t, "behind the last parameter", append(b, 1, 2), want, len(b))
			}
		}
	}
}

func TestDecodeOfHeartbeats(t *testing.T) {
	for _, k := range []api.ChunkKind{4, 5} {
		for n := range 10 {
			c := withParams(k, beat(n))
			reads(t, "a heartbeat", bytesOf(c), c, len(bytesOf(c)))
		}
		fails(t, "none", headed(k, 0, nil), 61)
		for _, v := range [][]byte{{0, 1, 0, 4, 0, 1, 0, 4}, {0, 2, 0, 4}, {0, 0, 0, 4}, {1, 1, 0, 4}, {0, 1, 0, 4, 0, 2, 0, 4}, {0, 2, 0, 4, 0, 1, 0, 4}} {
			fails(t, "not just one", headed(k, 0, v), 61)
		}
		fails(t, "256", headed(k, 0, bytes.Repeat([]byte{0, 1, 0, 4}, 256)), 61)
	}
}

func TestDecodeOfDataWithoutData(t *testing.T) {
	v := valueBytesOf(whole(0))
	for n := range 12 {
		fails(t, "too short", headed(0, 3, v[:n]), 61)
	}
	fails(t, "no data", headed(0, 3, v[:12]), 62)
	fails(t, "no data, though bytes follow", headed(0, 3, v[:12], 1, 2, 3, 4), 62)
	c := whole(0)
	c.Body, c.Flags = c.Body[:1], 3
	reads(t, "one byte", headed(0, 3, v[:13]), c, 17)
}

func TestDecodeOfAnyBytes(t *testing.T) {
	outcomes := map[api.Errno]int{}
	for seed := range uint32(60000) {
		b := some(int(seed%97), seed)
		if len(b) > 4 {
			b[0] %= 18
			b[2], b[3] = 0, byte(int(b[3])%(len(b)+3))
		}
		if len(b) > 40 && (b[0] == 3 || b[0] == 16) {
			for at := 12; at < 18; at += 2 {
				b[at], b[at+1] = b[at]%32/31*16, b[at+1]%6
			}
		}
		if len(b) > 40 && (b[0] < 3 || b[0] < 10) {
			for at := 4; at+3 < len(b); at += 4 {
				b[at], b[at+1], b[at+2], b[at+3] = 0, b[at+1]%2+1, 0, 4+b[at+3]%20
			}
		}
		outcomes[held(t, "any bytes", b)]++
	}
	for _, e := range []api.Errno{0, 3, 50, 60, 61} {
		if outcomes[e] < 100 {
			t.Errorf("%d came %d times", e, outcomes[e])
		}
	}
}

// P6.4

func TestAllOfNone(t *testing.T) {
	for _, b := range [][]byte{nil, {}} {
		if l, at, e := All(b); e != api.OK || at != 0 || len(l) != 0 {
			t.Errorf("%v, %d, %d", l, at, e)
		}
	}
}

func TestAllOfGoodChunks(t *testing.T) {
	all := smallChunks()
	for i, c := range all {
		l := []api.Chunk{c}
		for n := range 5 {
			if got, at, e := All(bytesOf(l...)); e != api.OK || at != 0 || !allAlike(got, l) {
				t.Errorf("%d chunks: %d, %d, %d", len(l), len(got), at, e)
			}
			l = append(l, all[(i*31+n*17)%len(all)])
		}
	}
	if got, at, e := All(bytesOf(all...)); e != api.OK || at != 0 || !allAlike(got, all) {
		t.Errorf("all: %d, %d, %d", len(got), at, e)
	}
	// All asks not how many bytes there are.
	great := greatChunks()
	if got, at, e := All(bytesOf(great...)); e != api.OK || at != 0 || !allAlike(got, great) {
		t.Errorf("the greatest: %d, %d, %d", len(got), at, e)
	}
}

// Behind the last one some, or all, of the bytes between may be missing; behind others they may be any.
func TestAllOfAnythingBetween(t *testing.T) {
	l := []api.Chunk{withBody(17, 1), withBody(0, 2), withBody(10, 3), withBody(10, 4), withBody(12, 1)}
	for _, filler := range []byte{0, 8, 255} {
		var b []byte
		end := 0
		for _, c := range l {
			b = append(b, headed(c.Kind, c.Flags, valueBytesOf(c))...)
			end = len(b)
			for len(b)%4 != 0 {
				b = append(b, filler)
			}
		}
		for n := end; n <= len(b); n++ {
			if got, at, e := All(b[:n]); e != api.OK || at != 0 || !allAlike(got, l) {
				t.Errorf("%d of %d: %d, %d, %d", n, len(b), len(got), at, e)
			}
		}
		if got, at, e := All(append(bytes.Clone(b), 0)); e != api.ErrCut || at != len(b) || len(got) != 0 {
			t.Errorf("one more: %d, %d, %d", len(got), at, e)
		}
	}
}

func TestAllOfFaults(t *testing.T) {
	if l, at, e := All([]byte{8, 0, 0, 4, 11, 0, 0, 4, 9}); e != api.ErrCut || at != 8 || len(l) != 0 {
		t.Errorf("%v, %d, %d", l, at, e)
	}
	good := []api.Chunk{whole(0), withBody(17, 1), whole(8), whole(3)}
	for _, x := range []struct {
		bytes []byte
		why   api.Errno
	}{
		{[]byte{8, 0, 0, 3}, 60}, {[]byte{8, 0, 0, 0}, 60}, {[]byte{10, 0, 255, 255}, 60},
		{[]byte{8, 0, 0, 8, 0, 0, 0, 0}, 61}, {[]byte{7, 0, 0, 4}, 61}, {[]byte{4, 0, 0, 4}, 61}, {headed(0, 3, make([]byte, 12)), 62},
		{[]byte{9, 0, 0, 6, 0, 1, 0, 0}, 50}, {headed(3, 0, append(make([]byte, 8), 16, 1, 0, 0)), 3},
	} {
		for n := range len(good) + 1 {
			ahead := bytesOf(good[:n]...)
			b := append(bytes.Clone(ahead), x.bytes...)
			if l, at, e := All(b); e != x.why || at != len(ahead) || len(l) != 0 {
				t.Errorf("%v behind %d: %d, %d, %d", x.bytes, n, len(l), at, e)
			}
			// A later fault is not told.
			b = append(append(b, bytesOf(good[n:]...)...), 1, 2, 3)
			if l, at, e := All(b); e != x.why || at != len(ahead) || len(l) != 0 {
				t.Errorf("%v between, behind %d: %d, %d, %d", x.bytes, n, len(l), at, e)
			}
		}
	}
}

// Bytes that are cut at every length are chunks, or tell the chunk that is cut.
func TestAllOfEveryLength(t *testing.T) {
	l := []api.Chunk{whole(0), withBody(17, 1), whole(8), whole(3), whole(16), whole(1), withBody(10, 2)}
	b := bytesOf(l...)
	for n := range len(b) + 1 {
		var want []api.Chunk
		at, e := 0, api.OK
		for at < n && e == api.OK {
			c, size, fault := chunkOf(b[at:n])
			want, e, at = append(want, c), fault, at+size
		}
		if e == api.OK {
			at = 0
		} else {
			want = nil
		}
		if got, gotAt, gotError := All(b[:n]); gotError != e || gotAt != at || !allAlike(got, want) {
			t.Errorf("%d: %d, %d, %d; want %d, %d, %d", n, len(got), gotAt, gotError, len(want), at, e)
		}
	}
}

// P6.5

// filledChunk has something in every field, whatever its kind.
func filledChunk() api.Chunk {
	return changed(api.Chunk{Kind: 3, Flags: 1}, 0, names...)
}

func TestSameOfEachFieldAlone(t *testing.T) {
	for _, c := range []api.Chunk{filledChunk(), {}, whole(16)} {
		if !Same(c, c) || !Same(c, copied(c)) {
			t.Error("a chunk is not the same as itself")
		}
		differ := func(name string, change func(*api.Chunk)) {
			other := copied(c)
			change(&other)
			if Same(c, other) || Same(other, c) {
				t.Errorf("%s plays no part", name)
			}
			if !Same(other, copied(other)) {
				t.Errorf("%s: a copy is another one", name)
			}
		}
		differ("Kind", func(c *api.Chunk) { c.Kind ^= 128 })
		differ("Flags", func(c *api.Chunk) { c.Flags ^= 128 })
		for _, name := range names {
			if four(&c, name) != nil {
				differ(name, func(c *api.Chunk) { *four(c, name) ^= 1 })
				differ(name, func(c *api.Chunk) { *four(c, name) ^= 1 << 31 })
			}
			if two(&c, name) != nil {
				differ(name, func(c *api.Chunk) { *two(c, name) ^= 1 })
				differ(name, func(c *api.Chunk) { *two(c, name) ^= 1 << 15 })
			}
		}
		differ("the number of Gaps", func(c *api.Chunk) { c.Gaps = append(c.Gaps, api.Gap{}) })
		differ("the number of NR", func(c *api.Chunk) { c.NR = append(c.NR, api.Gap{}) })
		differ("the number of Dups", func(c *api.Chunk) { c.Dups = append(c.Dups, 0) })
		differ("the Body's length", func(c *api.Chunk) { c.Body = append(c.Body, 0) })
		differ("the number of Params", func(c *api.Chunk) { c.Params = append(c.Params, api.Param{}) })
	}
}

func TestSameOfListItems(t *testing.T) {
	c := filledChunk()
	for name, change := range map[string]func(*api.Chunk){
		"a Start":         func(c *api.Chunk) { c.Gaps[1].Start++ },
		"an End":          func(c *api.Chunk) { c.Gaps[0].End++ },
		"a Start of NR":   func(c *api.Chunk) { c.NR[0].Start++ },
		"an End of NR":    func(c *api.Chunk) { c.NR[0].End++ },
		"a duplicate":     func(c *api.Chunk) { c.Dups[2]++ },
		"a byte":          func(c *api.Chunk) { c.Body[4]++ },
		"a type":          func(c *api.Chunk) { c.Params[0].Type++ },
		"a parameter":     func(c *api.Chunk) { c.Params[0].Body[2]++ },
		"order of Gaps":   func(c *api.Chunk) { slices.Reverse(c.Gaps) },
		"order of Dups":   func(c *api.Chunk) { slices.Reverse(c.Dups) },
		"order of bytes":  func(c *api.Chunk) { slices.Reverse(c.Body) },
		"Gaps for NR":     func(c *api.Chunk) { c.Gaps, c.NR = c.NR, c.Gaps },
		"Out for In":      func(c *api.Chunk) { c.Out, c.In = c.In, c.Out },
		"Tag for TSN":     func(c *api.Chunk) { c.Tag, c.TSN = c.TSN, c.Tag },
		"no Gaps":         func(c *api.Chunk) { c.Gaps = nil },
		"no NR":           func(c *api.Chunk) { c.NR = nil },
		"no Dups":         func(c *api.Chunk) { c.Dups = nil },
		"no Body":         func(c *api.Chunk) { c.Body = nil },
		"no Params":       func(c *api.Chunk) { c.Params = nil },
		"fewer Gaps":      func(c *api.Chunk) { c.Gaps = c.Gaps[:1] },
		"a shorter param": func(c *api.Chunk) { c.Params[0].Body = c.Params[0].Body[:2] },
	} {
		other := copied(c)
		change(&other)
		if Same(c, other) || Same(other, c) {
			t.Errorf("%s plays no part", name)
		}
	}
}

func TestSameOfNilAndEmpty(t *testing.T) {
	for _, k := range []api.ChunkKind{0, 3, 6, 16, 99} {
		none := api.Chunk{Kind: k, TSN: 7}
		empty := api.Chunk{Kind: k, TSN: 7, Gaps: []api.Gap{}, NR: gaps(3)[:0], Dups: []uint32{}, Body: some(4, 1)[:0], Params: []api.Param{}}
		if !Same(none, empty) || !Same(empty, none) || !Same(empty, empty) {
			t.Error("nothing differs from nothing")
		}
	}
	a, b := withParams(6, api.Param{Type: 1}), withParams(6, api.Param{Type: 1, Body: []byte{}})
	if !Same(a, b) || !Same(b, a) {
		t.Error("an empty Body differs from none")
	}
}

// Same asks not whether chunks may be.
func TestSameOfAny(t *testing.T) {
	var all []api.Chunk
	for _, x := range badChunks()[:40] {
		all = append(all, x.chunk)
	}
	all = append(all, smallChunks()[:200]...)
	for _, a := range all {
		for _, b := range all {
			if got, want := Same(a, b), alike(a, b); got != want {
				t.Fatalf("%d and %d: %v", a.Kind, b.Kind, got)
			}
		}
	}
}

// P6.6

func TestDecodeOfEncode(t *testing.T) {
	for i, c := range good() {
		b, e := Encode(c)
		if e != api.OK {
			t.Fatalf("chunk %d of kind %d: Encode: %d", i, c.Kind, e)
		}
		for _, more := range [][]byte{nil, {0}, {1, 2, 3}, {8, 0, 0, 4, 8, 0, 0, 4}} {
			got, n, e := Decode(append(bytes.Clone(b), more...))
			if e != api.OK || n != len(b) || n != Size(c) || !alike(got, c) || !Same(got, c) {
				t.Errorf("chunk %d of kind %d: %d, %d", i, c.Kind, n, e)
			}
		}
	}
}

func TestAllOfEncode(t *testing.T) {
	all := smallChunks()
	for n := range 60 {
		l := all[n*11 : n*11+n]
		b, e := Encode(l...)
		if e != api.OK {
			t.Fatalf("%d chunks: Encode: %d", n, e)
		}
		if got, at, e := All(b); e != api.OK || at != 0 || !allAlike(got, l) || !slices.EqualFunc(got, l, Same) {
			t.Errorf("%d chunks: %d, %d, %d", n, len(got), at, e)
		}
	}
	for i, l := range togethers() {
		b, _ := Encode(l...)
		if got, at, e := All(b); e != api.OK || at != 0 || !allAlike(got, l) {
			t.Errorf("list %d: %d, %d, %d", i, len(got), at, e)
		}
	}
}

// P6.7

// comes holds what Decode answers against Check and Encode.
func comes(t *testing.T, b []byte) bool {
	t.Helper()
	c, n, e := Decode(b)
	if e != api.OK {
		return false
	}
	if n < 4 || n > len(b) || n%4 != 0 && n != len(b) {
		t.Fatalf("%v: %d of %d bytes", b[:4], n, len(b))
	}
	if e := Check(c); e != api.OK {
		t.Fatalf("%v: Check: %d", b[:4], e)
	}
	again, e := Encode(c)
	if e != api.OK || len(again) != Size(c) {
		t.Fatalf("%v: Encode: %d", b[:4], e)
	}
	if d, m, e := Decode(again); e != api.OK || m != len(again) || !alike(c, d) || !Same(c, d) {
		t.Fatalf("%v: decoded again: %d, %d", b[:4], m, e)
	}
	return true
}

func TestWhatComesMayBe(t *testing.T) {
	for _, c := range good() {
		b := bytesOf(c)
		for _, flags := range []byte{0, 1, 8, 255} {
			b[1] = flags
			if !comes(t, b) || !comes(t, append(b, 1, 2, 3)) {
				t.Errorf("kind %d does not come", c.Kind)
			}
		}
	}
}

func TestWhatComesOfAnyBytesMayBe(t *testing.T) {
	came := 0
	for seed := range uint32(60000) {
		b := some(4+int(seed%80), seed)
		b[0] %= 20
		b[2], b[3] = 0, byte(4+int(b[3])%(len(b)-3))
		// Small numbers, so that counts and lengths often fit.
		for at := 4; at < len(b); at++ {
			if at%2 == 0 {
				b[at] = 0
			} else if at%4 == 3 {
				b[at] %= 9
			}
		}
		if comes(t, b) {
			came++
		}
	}
	if came < 10000 {
		t.Errorf("only %d came", came)
	}
}

func FuzzDecode(f *testing.F) {
	for _, w := range written {
		f.Add(w.bytes)
	}
	f.Fuzz(func(t *testing.T, b []byte) {
		held(t, "any bytes", b)
		comes(t, b)
	})
}

// Rules 4 and 5: nothing is changed, kept or shared, and the same is answered again.

// roomy is a chunk whose lists have room behind them that a careless append would write to.
func roomy(c api.Chunk) (narrow, all api.Chunk) {
	all = copied(c)
	all.Gaps = append(all.Gaps, gaps(3)...)
	all.NR = append(all.NR, gaps(3)...)
	all.Dups = append(all.Dups, dups(3)...)
	all.Body = append(all.Body, 71, 72, 73, 74, 75, 76, 77, 78)
	all.Params = append(all.Params, params(3)...)
	narrow = all
	narrow.Gaps, narrow.NR, narrow.Dups = all.Gaps[:len(c.Gaps)], all.NR[:len(c.NR)], all.Dups[:len(c.Dups)]
	narrow.Body, narrow.Params = all.Body[:len(c.Body)], all.Params[:len(c.Params)]
	return narrow, all
}

func TestNothingHandedInIsChanged(t *testing.T) {
	for _, k := range kinds() {
		for _, c := range []api.Chunk{whole(k), changed(whole(k), 0, names...)} {
			narrow, all := roomy(c)
			before := copied(all)
			list := []api.Chunk{narrow, narrow, all}
			Check(narrow)
			Size(narrow)
			Encode(narrow)
			Encode(list[:2]...)
			Same(narrow, copied(narrow))
			Same(narrow, all)
			if !alike(all, before) || !alike(narrow, c) || !allAlike(list, []api.Chunk{c, c, before}) {
				t.Errorf("a chunk of kind %d was changed", k)
			}
		}
		b := append(bytesOf(whole(k), whole(k)), 1, 2, 3, 4, 5, 6, 7)
		before := bytes.Clone(b)
		for n := range len(b) + 1 {
			Decode(b[:n])
			All(b[:n])
		}
		if !bytes.Equal(b, before) {
			t.Errorf("bytes of kind %d were changed", k)
		}
	}
}

// scrub writes over all that a chunk's lists have, and over the room behind them.
func scrub(c api.Chunk) {
	for i := range c.Params {
		clear(c.Params[i].Body[:cap(c.Params[i].Body)])
	}
	clear(c.Gaps[:cap(c.Gaps)])
	clear(c.NR[:cap(c.NR)])
	clear(c.Dups[:cap(c.Dups)])
	clear(c.Body[:cap(c.Body)])
	clear(c.Params[:cap(c.Params)])
}

func TestEncodeKeepsNothing(t *testing.T) {
	for _, c := range smallChunks() {
		handed := copied(c)
		b, e := Encode(handed)
		scrub(handed)
		if e != api.OK || !bytes.Equal(b, bytesOf(c)) {
			t.Fatalf("kind %d: the answer hangs on what was handed in", c.Kind)
		}
		other, _ := Encode(c)
		clear(b[:cap(b)])
		if !bytes.Equal(other, bytesOf(c)) {
			t.Fatalf("kind %d: two answers share memory", c.Kind)
		}
	}
}

func TestDecodeKeepsNothing(t *testing.T) {
	for _, c := range smallChunks() {
		b := bytesOf(c)
		got, _, e := Decode(b)
		list, _, _ := All(b)
		clear(b)
		if e != api.OK || !alike(got, c) || !allAlike(list, []api.Chunk{c}) {
			t.Fatalf("kind %d: the answer hangs on the bytes", c.Kind)
		}
		b = bytesOf(c)
		before := bytes.Clone(b)
		got, _, _ = Decode(b)
		other, _, _ := Decode(b)
		scrub(got)
		if !bytes.Equal(b, before) || !alike(other, c) {
			t.Fatalf("kind %d: the answer shares memory", c.Kind)
		}
	}
}

// No two lists of an answer share memory: to write over one, and over the room behind it, changes no other.
func TestListsOfAnAnswerShareNothing(t *testing.T) {
	l := []api.Chunk{report(16, 3, 3, 3), withParams(1, beat(3), beat(4), beat(0)), withBody(0, 5), report(16, 2, 2, 2), withParams(9, beat(5), beat(1))}
	for i := range l {
		got, _, _ := All(bytesOf(l...))
		scrub(got[i])
		for j := range l {
			if j != i && !alike(got[j], l[j]) {
				t.Errorf("chunk %d shares with %d", i, j)
			}
		}
	}
	got, _, _ := Decode(bytesOf(l[0]))
	clear(got.Gaps[:cap(got.Gaps)])
	if !slices.Equal(got.NR, l[0].NR) || !slices.Equal(got.Dups, l[0].Dups) {
		t.Error("Gaps share")
	}
	clear(got.NR[:cap(got.NR)])
	if !slices.Equal(got.Dups, l[0].Dups) {
		t.Error("NR share")
	}
	got, _, _ = Decode(bytesOf(l[1]))
	clear(got.Params[0].Body[:cap(got.Params[0].Body)])
	if !param.Same(got.Params[1:], l[1].Params[1:]) {
		t.Error("Params share")
	}
}

func TestTheSameAgain(t *testing.T) {
	b := bytesOf(smallChunks()[:50]...)
	for range 3 {
		for _, c := range smallChunks() {
			first, _ := Encode(c)
			Decode([]byte{9, 0, 0, 6, 0, 1})
			second, _ := Encode(c)
			if !bytes.Equal(first, second) || Size(c) != len(first) || Check(c) != api.OK {
				t.Fatalf("kind %d: another answer", c.Kind)
			}
		}
		if l, at, e := All(b); e != api.OK || at != 0 || !allAlike(l, smallChunks()[:50]) {
			t.Fatal("another answer")
		}
	}
}

// Reading gives up within what the bytes say: the greatest counts ask for no memory that is not there.
func TestDecodeOfGreatCountsAndNoBytes(t *testing.T) {
	v := append(make([]byte, 8), 16, 0, 16, 0, 16, 0, 0, 0)
	n := testing.AllocsPerRun(10, func() { Decode(headed(16, 0, v)) })
	if n > 10 {
		t.Errorf("%v", n)
	}
	fails(t, "4096 of each, and none there", headed(16, 0, v), 61)
}
