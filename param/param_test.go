package param

import (
	"bytes"
	"encoding/binary"
	"slices"
	"strings"
	"testing"

	"ropewalk/api"
)

// bytesOf is a list's bytes in the chapter's words: type, length, Body, and 0 between.
func bytesOf(l []api.Param) []byte {
	var b []byte
	for i, p := range l {
		b = binary.BigEndian.AppendUint16(b, p.Type)
		b = binary.BigEndian.AppendUint16(b, uint16(4+len(p.Body)))
		b = append(b, p.Body...)
		for i < len(l)-1 && len(b)%4 != 0 {
			b = append(b, 0)
		}
	}
	return b
}

// listOf is what bytes are in the chapter's words: the list, or the place of the first fault and its error.
func listOf(b []byte) ([]api.Param, int, api.Errno) {
	var l []api.Param
	for at := 0; at < len(b); {
		if len(l) == 256 {
			return nil, at, 3
		}
		if len(b)-at < 4 {
			return nil, at, 50
		}
		n := int(binary.BigEndian.Uint16(b[at+2:]))
		if n < 4 || n > len(b)-at {
			return nil, at, 50
		}
		l = append(l, api.Param{Type: binary.BigEndian.Uint16(b[at:]), Body: b[at+4 : at+n]})
		at += n
		for at%4 != 0 && at < len(b) {
			at++
		}
	}
	return l, 0, 0
}

// alike holds lists against each other, parameter by parameter.
func alike(a, b []api.Param) bool {
	if len(a) != len(b) {
		return false
	}
	for i := range a {
		if a[i].Type != b[i].Type || string(a[i].Body) != string(b[i].Body) {
			return false
		}
	}
	return true
}

// copied shares nothing with the list.
func copied(l []api.Param) []api.Param {
	var other []api.Param
	for _, p := range l {
		other = append(other, api.Param{Type: p.Type, Body: bytes.Clone(p.Body)})
	}
	return other
}

// some is n bytes that hang on the seed alone.
func some(n int, seed uint32) []byte {
	b := make([]byte, n)
	for i := range b {
		seed = seed*1664525 + 1013904223
		b[i] = byte(seed >> 24)
	}
	return b
}

func of(kind uint16, body ...byte) api.Param { return api.Param{Type: kind, Body: body} }

// long is a parameter with a Body of so many bytes, none of which is 0.
func long(kind uint16, n int) api.Param {
	return api.Param{Type: kind, Body: bytes.Repeat([]byte{0xA5}, n)}
}

// many is n parameters with Bodies of 0 to 9 bytes.
func many(n int) []api.Param {
	var l []api.Param
	for i := range n {
		l = append(l, api.Param{Type: uint16(i * 257), Body: some(i%10, uint32(i))})
	}
	return l
}

// lists are those that Encode takes.
func lists() [][]api.Param {
	all := [][]api.Param{
		nil, {}, {of(0)}, {of(65535)}, {of(1), of(1)},
		{of(7, 1, 2, 3), of(1)}, {of(1), of(7, 1, 2, 3)},
		{of(255, 0)}, {of(256, 0, 0)}, {of(0x1234, 0, 0, 0)}, {of(0, 0, 0, 0, 0), of(0, 0)},
		many(2), many(3), many(10), many(254), many(255), many(256),
		{long(1, 65530)}, {long(2, 65531)}, {long(3, 65530), of(4)}, {long(5, 65531), of(6)},
		{of(7, 1), long(8, 65531), of(9, 2), long(10, 65530), of(11, 3)},
		{long(1, 251)}, {long(1, 252)}, {long(1, 253)}, {long(1, 32763)}, {long(1, 32764)}, {long(1, 32765)},
	}
	for n := range 10 {
		body := api.Param{Type: uint16(n), Body: some(n, 77)}
		all = append(all, []api.Param{body}, []api.Param{body, of(1)}, []api.Param{of(2), body}, []api.Param{body, body, body})
	}
	return append(all, slices.Repeat([]api.Param{long(7, 65531)}, 256))
}

// refused is a list that Encode does not take, and why.
type refused struct {
	name string
	list []api.Param
	why  api.Errno
}

func refusedLists() []refused {
	over := long(1, 65532)
	return []refused{
		{"257", many(257), 3},
		{"257 of nothing", make([]api.Param, 257), 3},
		{"1000", many(1000), 3},
		{"65532 alone", []api.Param{over}, 2},
		{"70000 alone", []api.Param{long(1, 70000)}, 2},
		{"65532 + 65536, whose length would be 4 again", []api.Param{long(1, 65532+65536)}, 2},
		{"65536, whose length would be 4", []api.Param{long(1, 65536)}, 2},
		{"65532 ahead", append([]api.Param{over}, many(5)...), 2},
		{"65532 between", append(many(2), over, of(1)), 2},
		{"65532 behind", append(many(5), over), 2},
		{"65532 behind 255", append(many(255), over), 2},
		{"both, 65532 ahead", append([]api.Param{over}, many(256)...), 3},
		{"both, 65532 behind", append(many(256), over), 3},
		{"both, 257 of 65532", slices.Repeat([]api.Param{over}, 257), 3},
	}
}

// P5.1

func TestEncodeOfTheExample(t *testing.T) {
	want := []byte{0, 7, 0, 7, 1, 2, 3, 0, 0, 1, 0, 4}
	if b, e := Encode(of(7, 1, 2, 3), of(1)); e != api.OK || !bytes.Equal(b, want) {
		t.Errorf("Encode = %v, %d", b, e)
	}
	if n := Size(of(7, 1, 2, 3), of(1)); n != 12 {
		t.Errorf("Size = %d", n)
	}
}

func TestEncodeOfNothing(t *testing.T) {
	for _, l := range [][]api.Param{nil, {}, make([]api.Param, 3)[:0]} {
		if b, e := Encode(l...); e != api.OK || len(b) != 0 {
			t.Errorf("Encode = %v, %d", b, e)
		}
		if n := Size(l...); n != 0 {
			t.Errorf("Size = %d", n)
		}
	}
	if b, e := Encode(); e != api.OK || len(b) != 0 || Size() != 0 {
		t.Errorf("Encode = %v, %d", b, e)
	}
}

// An empty Body and none are the same one.
func TestEncodeOfEmptyBodies(t *testing.T) {
	for _, body := range [][]byte{nil, {}, some(5, 1)[:0]} {
		b, e := Encode(api.Param{Type: 9, Body: body})
		if e != api.OK || !bytes.Equal(b, []byte{0, 9, 0, 4}) {
			t.Errorf("Encode = %v, %d", b, e)
		}
	}
}

func TestEncodeOfSmallBodies(t *testing.T) {
	for body, want := range map[string]string{
		"":          "\x12\x34\x00\x04" + "\x00\x01\x00\x04",
		"a":         "\x12\x34\x00\x05a\x00\x00\x00" + "\x00\x01\x00\x04",
		"ab":        "\x12\x34\x00\x06ab\x00\x00" + "\x00\x01\x00\x04",
		"abc":       "\x12\x34\x00\x07abc\x00" + "\x00\x01\x00\x04",
		"abcd":      "\x12\x34\x00\x08abcd" + "\x00\x01\x00\x04",
		"abcde":     "\x12\x34\x00\x09abcde\x00\x00\x00" + "\x00\x01\x00\x04",
		"abcdefghi": "\x12\x34\x00\x0Dabcdefghi\x00\x00\x00" + "\x00\x01\x00\x04",
	} {
		if b, e := Encode(of(0x1234, []byte(body)...), of(1)); e != api.OK || string(b) != want {
			t.Errorf("%q ahead: %q, %d", body, b, e)
		}
		last := "\x00\x01\x00\x04" + want[:4+len(body)]
		if b, e := Encode(of(1), of(0x1234, []byte(body)...)); e != api.OK || string(b) != last {
			t.Errorf("%q behind: %q, %d", body, b, e)
		}
	}
}

func TestEncodeOfLists(t *testing.T) {
	for i, l := range lists() {
		b, e := Encode(l...)
		if e != api.OK || !bytes.Equal(b, bytesOf(l)) {
			t.Errorf("list %d of %d: %d bytes, %d", i, len(l), len(b), e)
		}
		if n := Size(l...); n != len(bytesOf(l)) {
			t.Errorf("list %d of %d: Size = %d, want %d", i, len(l), n, len(bytesOf(l)))
		}
	}
}

func TestEncodeOfEveryType(t *testing.T) {
	for kind := range 65536 {
		b, e := Encode(of(uint16(kind), 1))
		if e != api.OK || !bytes.Equal(b, []byte{byte(kind / 256), byte(kind % 256), 0, 5, 1}) {
			t.Fatalf("type %d: %v, %d", kind, b, e)
		}
	}
}

func TestEncodeAtTheGreatestBody(t *testing.T) {
	b, e := Encode(long(1, 65531), of(2))
	if e != api.OK || len(b) != 65536+4 || !bytes.Equal(b[:5], []byte{0, 1, 255, 255, 0xA5}) {
		t.Fatalf("%d bytes, %d", len(b), e)
	}
	// One byte 0 stands between.
	if !bytes.Equal(b[65534:], []byte{0xA5, 0, 0, 2, 0, 4}) {
		t.Errorf("behind it: %v", b[65534:])
	}
}

func TestEncodeRefuses(t *testing.T) {
	for _, r := range refusedLists() {
		if b, e := Encode(r.list...); e != r.why || len(b) != 0 {
			t.Errorf("%s: Encode = %d bytes, %d, want %d", r.name, len(b), e, r.why)
		}
		if n := Size(r.list...); n != 0 {
			t.Errorf("%s: Size = %d", r.name, n)
		}
	}
}

func TestErrorsHaveTheirNumbers(t *testing.T) {
	if api.ErrLong != 2 || api.ErrMany != 3 || api.ErrTlv != 50 || api.MaxParams != 256 || api.MaxBody != 65531 {
		t.Error("another number")
	}
}

// P5.2

func TestDecodeOfTheExamples(t *testing.T) {
	want := []api.Param{of(7, 1, 2, 3)}
	for _, b := range [][]byte{{0, 7, 0, 7, 1, 2, 3}, {0, 7, 0, 7, 1, 2, 3, 9}, {0, 7, 0, 7, 1, 2, 3, 0}} {
		if l, at, e := Decode(b); e != api.OK || at != 0 || !alike(l, want) {
			t.Errorf("%v: %v, %d, %d", b, l, at, e)
		}
	}
	if l, at, e := Decode([]byte{0, 7, 0, 9, 1, 2, 3, 4}); e != api.ErrTlv || at != 0 || len(l) != 0 {
		t.Errorf("%v, %d, %d", l, at, e)
	}
}

// held tells of bytes for which Decode and the chapter's words differ.
func held(t *testing.T, name string, b []byte) {
	t.Helper()
	want, wantAt, wantError := listOf(b)
	l, at, e := Decode(b)
	if e != wantError || at != wantAt || !alike(l, want) {
		t.Errorf("%s: %d parameters, %d, %d; want %d, %d, %d", name, len(l), at, e, len(want), wantAt, wantError)
	}
	if e != api.OK && len(l) != 0 {
		t.Errorf("%s: a list beside an error", name)
	}
}

// fails tells of bytes that Decode does not refuse with this error at this place.
func fails(t *testing.T, name string, b []byte, wantAt int, want api.Errno) {
	t.Helper()
	if l, at, e := Decode(b); e != want || at != wantAt || len(l) != 0 {
		t.Errorf("%s: %d parameters, %d, %d; want an error %d at %d", name, len(l), at, e, want, wantAt)
	}
}

func TestDecodeOfNothing(t *testing.T) {
	for _, b := range [][]byte{nil, {}, some(8, 1)[:0]} {
		if l, at, e := Decode(b); e != api.OK || at != 0 || len(l) != 0 {
			t.Errorf("%v, %d, %d", l, at, e)
		}
	}
}

func TestDecodeOfOneToEightBytes(t *testing.T) {
	for n := 1; n <= 3; n++ {
		for _, octet := range []byte{0, 1, 4, 255} {
			fails(t, "too few", bytes.Repeat([]byte{octet}, n), 0, 50)
		}
	}
	for n := 4; n <= 8; n++ {
		for length := range 300 {
			b := append([]byte{1, 2, byte(length >> 8), byte(length)}, some(n-4, 9)...)
			held(t, "a length", b)
			if length < 4 || length > n {
				fails(t, "no length", b, 0, 50)
			}
		}
	}
	// The bytes behind one of 4 are no filling: another parameter would begin there.
	for n := 5; n <= 7; n++ {
		fails(t, "behind an empty one", append([]byte{0, 1, 0, 4}, make([]byte, n-4)...), 4, 50)
	}
}

// What is none stands at the first, at a middle and at the last place that may be.
func TestDecodeOfFaultsAtEachPlace(t *testing.T) {
	faults := map[string][]byte{
		"one byte":           {0},
		"two bytes":          {0, 1},
		"three bytes":        {0, 1, 0},
		"length 0":           {0, 1, 0, 0},
		"length 1":           {0, 1, 0, 1},
		"length 2":           {0, 1, 0, 2},
		"length 3":           {0, 1, 0, 3},
		"length 3, a Body":   {0, 1, 0, 3, 1, 2, 3, 4},
		"one above":          {0, 1, 0, 5},
		"one above, a Body":  {0, 1, 0, 9, 1, 2, 3, 4},
		"far above":          {0, 1, 255, 255, 1, 2, 3, 4},
		"the greatest alone": {0, 1, 255, 255},
	}
	for name, fault := range faults {
		for _, ahead := range [][]api.Param{nil, {of(1)}, {of(2, 1)}, {of(3, 1, 2)}, {of(4, 1, 2, 3)}, many(3), many(10), many(255)} {
			for _, filler := range []byte{0, 4, 255} {
				b := bytesWith(ahead, filler)
				fails(t, name, append(b, fault...), len(b), 50)
			}
		}
	}
}

// bytesWith is a list's bytes with another byte than 0 between, and all of them behind the last one.
func bytesWith(l []api.Param, filler byte) []byte {
	var b []byte
	for _, p := range l {
		b = append(b, bytesOf([]api.Param{p})...)
		for len(b)%4 != 0 {
			b = append(b, filler)
		}
	}
	return b
}

// A length goes wrong at the first, a middle and the last place of a list that is all there.
func TestDecodeOfWrongLengths(t *testing.T) {
	l := []api.Param{of(1, 1, 2), of(2), of(3, 1, 2, 3, 4, 5), of(4, 9)}
	places := []int{0, 8, 12, 24}
	whole := bytesWith(l, 0)
	for i, place := range places {
		left := len(whole) - place
		for _, length := range []int{0, 1, 2, 3, left + 1, left + 2, left + 4, 1000, 65535} {
			b := bytes.Clone(whole)
			binary.BigEndian.PutUint16(b[place+2:], uint16(length))
			fails(t, "a wrong length", b, places[i], 50)
		}
		// What is left is a length still, and so is 4: an empty one, with others behind it.
		for _, length := range []int{4, left - 1, left} {
			b := bytes.Clone(whole)
			binary.BigEndian.PutUint16(b[place+2:], uint16(length))
			held(t, "another length", b)
		}
		b := bytes.Clone(whole)
		binary.BigEndian.PutUint16(b[place+2:], uint16(left))
		if got, at, e := Decode(b); e != api.OK || at != 0 || len(got) != i+1 {
			t.Errorf("all that is left: %d parameters, %d, %d", len(got), at, e)
		}
	}
}

// Of two faults the first one is told.
func TestDecodeTellsTheFirstFault(t *testing.T) {
	fails(t, "two", []byte{0, 1, 0, 4, 0, 1, 0, 3, 0, 1, 0, 2}, 4, 50)
	fails(t, "three", []byte{0, 1, 0, 4, 0, 1, 0, 5, 7, 0, 0, 0, 0, 1, 0, 2, 9}, 12, 50)
}

func TestDecodeOfAnythingBetween(t *testing.T) {
	for _, l := range [][]api.Param{{of(1, 1), of(2, 1, 2), of(3, 1, 2, 3), of(4)}, {of(5, 1, 2, 3, 4, 5), of(6)}, many(256)} {
		for _, filler := range []byte{0, 1, 4, 127, 255} {
			b := bytesWith(l, filler)
			if got, at, e := Decode(b); e != api.OK || at != 0 || !alike(got, l) {
				t.Errorf("%d between: %v, %d, %d", filler, got, at, e)
			}
		}
	}
}

func TestDecodeOfAnythingBehind(t *testing.T) {
	for n := range 10 {
		for _, ahead := range [][]api.Param{nil, {of(1)}, {of(2, 1), of(3, 1, 2, 3)}, many(255)} {
			l := append(copied(ahead), long(9, n))
			for _, filler := range []byte{0, 1, 4, 255} {
				b := bytesOf(l)
				if got, at, e := Decode(b); e != api.OK || at != 0 || !alike(got, l) {
					t.Errorf("nothing behind: %v, %d, %d", got, at, e)
				}
				for len(b)%4 != 0 {
					b = append(b, filler)
					if got, at, e := Decode(b); e != api.OK || at != 0 || !alike(got, l) {
						t.Errorf("%d behind a Body of %d: %v, %d, %d", filler, n, got, at, e)
					}
				}
			}
		}
	}
}

// One byte more than up to a length that 4 divides begins another parameter, and so is none.
func TestDecodeOfMoreThanAllBehind(t *testing.T) {
	for n := range 10 {
		for more := 1; more <= 3; more++ {
			b := bytesWith([]api.Param{long(9, n)}, 0)
			fails(t, "more behind", append(b, make([]byte, more)...), len(b), 50)
		}
	}
}

// A list is cut at every length.
func TestDecodeOfEveryLength(t *testing.T) {
	for _, l := range [][]api.Param{many(10), {of(1, 1, 2, 3, 4, 5, 6), of(2, 1), of(3), of(4, 1, 2)}, {long(1, 70), long(2, 71)}} {
		b := bytesWith(l, 0xEE)
		for n := range len(b) + 1 {
			held(t, "a cut list", b[:n])
		}
	}
}

func TestDecodeOfLengthsOfAHead(t *testing.T) {
	b := make([]byte, 65535+4)
	for length := range 65536 {
		if length > 1100 && length < 65000 && length%256 > 4 {
			continue
		}
		binary.BigEndian.PutUint16(b[2:], uint16(length))
		if length < 4 {
			fails(t, "too short", b[:4], 0, 50)
			continue
		}
		l, at, e := Decode(b[:length])
		if e != api.OK || at != 0 || len(l) != 1 || len(l[0].Body) != length-4 {
			t.Fatalf("length %d: %d parameters, %d, %d", length, len(l), at, e)
		}
		fails(t, "one too few", b[:length-1], 0, 50)
	}
}

func TestDecodeOfManyParameters(t *testing.T) {
	for _, n := range []int{1, 2, 255, 256} {
		for _, l := range [][]api.Param{many(n), make([]api.Param, n)} {
			if got, at, e := Decode(bytesOf(l)); e != api.OK || at != 0 || !alike(got, l) {
				t.Errorf("%d: %d parameters, %d, %d", n, len(got), at, e)
			}
		}
	}
	if got, _, e := Decode(bytesOf(slices.Repeat([]api.Param{long(7, 65531)}, 256))); e != api.OK || len(got) != 256 {
		t.Errorf("the greatest list: %d parameters, %d", len(got), e)
	}
	for _, n := range []int{257, 258, 1000} {
		for _, l := range [][]api.Param{many(n), make([]api.Param, n)} {
			fails(t, "too many", bytesOf(l), len(bytesWith(l[:256], 0)), 3)
		}
	}
}

// What begins behind the last one that may be is one too many, whatever it is.
func TestDecodeOfFaultsBehindTheLast(t *testing.T) {
	for _, l := range [][]api.Param{many(256), make([]api.Param, 256)} {
		b := bytesWith(l, 0)
		for _, more := range [][]byte{{0}, {0, 0}, {0, 0, 0}, {0, 0, 0, 0}, {0, 1, 0, 3}, {0, 1, 0, 4}, {0, 1, 0, 5}, {0, 1, 255, 255, 1}, make([]byte, 4000)} {
			fails(t, "behind 256", append(bytes.Clone(b), more...), len(b), 3)
		}
	}
	// One place ahead it is a fault like others, though more than enough bytes follow.
	b := bytesWith(many(255), 0)
	fails(t, "behind 255", append(bytes.Clone(b), make([]byte, 4000)...), len(b), 50)
	fails(t, "the first of many", append([]byte{0, 1, 0, 3}, bytesOf(many(300))...), 0, 50)
}

func TestDecodeOfAnyBytes(t *testing.T) {
	for seed := range uint32(20000) {
		b := some(int(seed%61), seed)
		// Heads with small lengths, so that several follow each other.
		for at := 0; at+3 < len(b); at += 4 {
			if b[at]%3 != 0 {
				b[at+2], b[at+3] = 0, b[at+3]%14
			}
		}
		held(t, "any bytes", b)
	}
}

// P5.3

func TestFind(t *testing.T) {
	l := []api.Param{of(1, 9), of(7, 1, 2), of(3), of(7, 3, 4), of(0, 5), of(65535, 6), of(3, 8)}
	for kind, want := range map[uint16][]byte{1: {9}, 7: {1, 2}, 3: {}, 0: {5}, 65535: {6}} {
		if b, ok := Find(l, kind); !ok || !bytes.Equal(b, want) {
			t.Errorf("%d: %v, %v", kind, b, ok)
		}
	}
	for _, kind := range []uint16{2, 8, 256, 263, 65534} {
		if b, ok := Find(l, kind); ok || len(b) != 0 {
			t.Errorf("%d: %v, %v", kind, b, ok)
		}
	}
	for _, none := range [][]api.Param{nil, {}} {
		if b, ok := Find(none, 0); ok || len(b) != 0 {
			t.Errorf("of nothing: %v, %v", b, ok)
		}
	}
}

func TestFindOfEmptyBodies(t *testing.T) {
	for _, body := range [][]byte{nil, {}} {
		if b, ok := Find([]api.Param{of(1, 1), {Type: 2, Body: body}, of(2, 2)}, 2); !ok || len(b) != 0 {
			t.Errorf("%v, %v", b, ok)
		}
	}
}

// Find asks neither how many there are nor how long they are.
func TestFindPastTheLimits(t *testing.T) {
	l := append(make([]api.Param, 1000), long(5, 70000))
	if b, ok := Find(l, 5); !ok || len(b) != 70000 {
		t.Errorf("%d, %v", len(b), ok)
	}
}

func TestFindOfEachPlace(t *testing.T) {
	l := many(256)
	for _, p := range l {
		if b, ok := Find(l, p.Type); !ok || !bytes.Equal(b, p.Body) {
			t.Errorf("%d: %v, %v", p.Type, b, ok)
		}
	}
}

func TestSame(t *testing.T) {
	all := append(lists(), many(257), []api.Param{long(1, 65532)},
		[]api.Param{of(1, 1, 2), of(2, 3)}, []api.Param{of(2, 3), of(1, 1, 2)}, // the order
		[]api.Param{of(1, 1, 2)}, []api.Param{of(2, 3)}, []api.Param{of(1, 1, 2), of(2, 3), of(2, 3)}, // the number
		[]api.Param{of(1, 1, 2), of(3, 3)}, []api.Param{of(257, 1, 2), of(2, 3)}, // a type
		[]api.Param{of(1, 1, 2), of(2, 4)}, []api.Param{of(1, 1), of(2, 3)}, []api.Param{of(1, 0, 2), of(2, 3)}, // a Body
		[]api.Param{of(1, 1, 2), of(2, 3, 0)}, []api.Param{of(1, 1), of(2, 2, 3)}, []api.Param{of(1, 2, 1), of(2, 3)},
		[]api.Param{of(1, 3), of(2, 1, 2)}, []api.Param{of(2, 1, 2), of(1, 3)})
	for i, a := range all {
		for j, b := range all {
			if got, want := Same(a, copied(b)), alike(a, b); got != want {
				t.Errorf("%d and %d: %v", i, j, got)
			}
		}
	}
}

func TestSameOfOneDifference(t *testing.T) {
	l := []api.Param{of(1, 1, 2), of(2, 3), of(3), of(4, 5)}
	if !Same(l, l) || !Same(l, copied(l)) {
		t.Error("a list is not the same as itself")
	}
	differ := func(name string, other []api.Param) {
		if Same(l, other) || Same(other, l) {
			t.Errorf("%s plays no part", name)
		}
	}
	differ("the number", l[:3])
	differ("the number", append(copied(l), of(4, 5)))
	differ("the number", nil)
	turned := copied(l)
	turned[0].Body[1] ^= 128
	differ("a byte", turned)
	for i := range l {
		other := copied(l)
		other[i].Type ^= 256
		differ("a type", other)
		other = copied(l)
		other[i].Body = append(other[i].Body, 0)
		differ("a Body's length", other)
		if i > 0 {
			other = copied(l)
			other[i-1], other[i] = other[i], other[i-1]
			differ("the order", other)
		}
	}
}

func TestSameOfNilAndEmpty(t *testing.T) {
	empty := [][]api.Param{nil, {}, many(3)[:0]}
	for _, a := range empty {
		for _, b := range empty {
			if !Same(a, b) {
				t.Error("nothing differs from nothing")
			}
		}
		if Same(a, make([]api.Param, 1)) || Same(make([]api.Param, 1), a) {
			t.Error("nothing is the same as an empty parameter")
		}
	}
	if !Same([]api.Param{{Type: 1}}, []api.Param{{Type: 1, Body: []byte{}}}) || !Same([]api.Param{{Type: 1, Body: []byte{}}}, []api.Param{{Type: 1}}) {
		t.Error("an empty Body differs from none")
	}
}

// P5.4

func wantCause(t *testing.T, name string, p api.Param, kind uint16, body ...byte) {
	t.Helper()
	if p.Type != kind || !bytes.Equal(p.Body, body) {
		t.Errorf("%s = %d, %v", name, p.Type, p.Body)
	}
}

func TestCauses(t *testing.T) {
	wantCause(t, "Stream(258)", Stream(258), 1, 1, 2, 0, 0)
	wantCause(t, "Stream(0)", Stream(0), 1, 0, 0, 0, 0)
	wantCause(t, "Stream(1)", Stream(1), 1, 0, 1, 0, 0)
	wantCause(t, "Stream(256)", Stream(256), 1, 1, 0, 0, 0)
	wantCause(t, "Stream(65535)", Stream(65535), 1, 255, 255, 0, 0)
	for x, body := range map[uint32][]byte{
		0: {0, 0, 0, 0}, 1: {0, 0, 0, 1}, 255: {0, 0, 0, 255}, 256: {0, 0, 1, 0}, 0x10000: {0, 1, 0, 0}, 0x1000000: {1, 0, 0, 0},
		0x01020304: {1, 2, 3, 4}, 0x80000000: {128, 0, 0, 0}, 0xFEDCBA98: {0xFE, 0xDC, 0xBA, 0x98}, 4294967295: {255, 255, 255, 255},
	} {
		wantCause(t, "Stale", Stale(x), 3, body...)
		wantCause(t, "NoData", NoData(x), 9, body...)
	}
}

func TestStreamOfEveryNumber(t *testing.T) {
	for id := range 65536 {
		wantCause(t, "Stream", Stream(uint16(id)), 1, byte(id/256), byte(id%256), 0, 0)
	}
}

func TestUser(t *testing.T) {
	for _, why := range []string{"", "b", "bye", "\x00\xff\xfe", "träge", strings.Repeat("x", 1000), strings.Repeat("y", 65530), strings.Repeat("z", 65531)} {
		p, e := User(why)
		if e != api.OK || p.Type != 12 || string(p.Body) != why {
			t.Errorf("%d bytes: type %d, %d bytes, %d", len(why), p.Type, len(p.Body), e)
		}
		if _, e := Encode(p); e != api.OK {
			t.Errorf("%d bytes: Encode refuses the cause", len(why))
		}
	}
	// Bytes count, not letters: 32766 of two bytes are one too many.
	for _, why := range []string{strings.Repeat("z", 65532), strings.Repeat("z", 65536), strings.Repeat("z", 100000), strings.Repeat("ä", 32766)} {
		if p, e := User(why); e != api.ErrLong || p.Type != 0 || len(p.Body) != 0 {
			t.Errorf("%d bytes: type %d, %d bytes, %d", len(why), p.Type, len(p.Body), e)
		}
	}
}

func TestTypesHaveTheirNumbers(t *testing.T) {
	got := []uint16{api.PHeartbeat, api.PCookie, api.CauseStream, api.CauseStale, api.CauseChunk, api.CauseNoData, api.CauseRestart, api.CauseUser, api.CauseWrong}
	if !slices.Equal(got, []uint16{1, 7, 1, 3, 6, 9, 11, 12, 13}) {
		t.Errorf("%v", got)
	}
}

func TestCausesAreParameters(t *testing.T) {
	user, _ := User("bye")
	l := []api.Param{Stale(4294967295), user, Stream(258), NoData(1)}
	b, e := Encode(l...)
	if e != api.OK || string(b) != "\x00\x03\x00\x08\xff\xff\xff\xff\x00\x0c\x00\x07bye\x00\x00\x01\x00\x08\x01\x02\x00\x00\x00\x09\x00\x08\x00\x00\x00\x01" {
		t.Errorf("Encode = %q, %d", b, e)
	}
	if got, _, e := Decode(b); e != api.OK || !alike(got, l) {
		t.Errorf("Decode = %v, %d", got, e)
	}
}

// P5.5

func TestDecodeOfEncode(t *testing.T) {
	for i, l := range lists() {
		b, e := Encode(l...)
		if e != api.OK {
			t.Fatalf("list %d: Encode: %d", i, e)
		}
		if got, at, e := Decode(b); e != api.OK || at != 0 || !alike(got, l) || !Same(got, l) {
			t.Errorf("list %d: %d parameters, %d, %d", i, len(got), at, e)
		}
	}
}

// cleaned is the bytes with 0 between and nothing behind the last one, told by the lengths alone.
func cleaned(b []byte) []byte {
	b = bytes.Clone(b)
	end := 0
	for at := 0; at < len(b); {
		end = at + int(binary.BigEndian.Uint16(b[at+2:]))
		for at = end; at%4 != 0 && at < len(b); at++ {
			b[at] = 0
		}
	}
	return b[:end]
}

func TestEncodeOfDecode(t *testing.T) {
	for i, l := range lists() {
		for _, filler := range []byte{0, 1, 255} {
			whole := bytesWith(l, filler)
			// From all to none of the bytes behind the last one.
			for n := len(whole); n >= len(bytesOf(l)); n-- {
				got, _, e := Decode(whole[:n])
				if e != api.OK {
					t.Fatalf("list %d: Decode: %d", i, e)
				}
				b, e := Encode(got...)
				if e != api.OK || !bytes.Equal(b, cleaned(whole[:n])) || Size(got...) != len(b) {
					t.Errorf("list %d, %d between: %d bytes, %d", i, filler, len(b), e)
				}
			}
		}
	}
}

func TestEncodeOfDecodeOfAnyBytes(t *testing.T) {
	lists := 0
	for seed := range uint32(20000) {
		b := some(int(seed%40), seed)
		for at := 0; at+3 < len(b); at += 4 {
			b[at+2], b[at+3] = 0, 4+b[at+3]%12
		}
		l, _, e := Decode(b)
		if e != api.OK {
			continue
		}
		lists++
		if again, e := Encode(l...); e != api.OK || !bytes.Equal(again, cleaned(b)) {
			t.Fatalf("%v: %v, %d", b, again, e)
		}
	}
	if lists < 1000 {
		t.Errorf("only %d were lists", lists)
	}
}

// Rules 4 and 5: nothing is changed, kept or shared, and the same is answered again.

// wide has room behind its list, and each Body behind its own, that a careless append would write to.
func wide() (l []api.Param, room []byte) {
	room = some(64, 5)
	return []api.Param{{Type: 7, Body: room[0:3]}, {Type: 1, Body: room[8:8]}, {Type: 7, Body: room[16:22]}, {Type: 2, Body: room[32:33]}}[:3], room
}

func TestNothingHandedInIsChanged(t *testing.T) {
	l, room := wide()
	list, all := copied(l[:4]), bytes.Clone(room)
	b, _ := Encode(l...)
	Size(l...)
	Find(l, 7)
	Find(l, 9)
	Same(l, copied(l))
	Same(l, l[:2])
	if !alike(l[:4], list) || !bytes.Equal(room, all) {
		t.Error("a list was changed")
	}
	b = append(b, 1, 2, 3, 4, 5)[:len(b)]
	for n := range len(b) + 1 {
		before := bytes.Clone(b[:cap(b)])
		Decode(b[:n])
		if !bytes.Equal(b[:cap(b)], before) {
			t.Fatal("bytes were changed")
		}
	}
}

// spoil turns every byte of a slice, and of the room behind it.
func spoil(b []byte) {
	b = b[:cap(b)]
	for i := range b {
		b[i] ^= 0xFF
	}
}

func TestNothingHandedInIsKept(t *testing.T) {
	l, room := wide()
	want := bytesOf(l)
	b, _ := Encode(l...)
	body, _ := Find(l, 7)
	wantBody := bytes.Clone(l[0].Body)
	spoil(room)
	l[0].Type, l[1], l[2] = 99, of(5, 5), of(6)
	if !bytes.Equal(b, want) {
		t.Error("Encode's answer hangs on the list")
	}
	if !bytes.Equal(body, wantBody) {
		t.Error("Find's answer hangs on the list")
	}

	given := bytes.Clone(want)
	got, _, _ := Decode(given)
	wantList, _, _ := listOf(want)
	spoil(given)
	if !alike(got, wantList) {
		t.Error("Decode's answer hangs on the bytes")
	}
}

func TestAnswersShareNothing(t *testing.T) {
	l, room := wide()
	list, all := copied(l[:4]), bytes.Clone(room)
	b, _ := Encode(l...)
	other, _ := Encode(l...)
	spoil(b)
	if !bytes.Equal(other, bytesOf(list[:3])) {
		t.Error("two answers of Encode share bytes")
	}
	body, _ := Find(l, 7)
	again, _ := Find(l, 7)
	spoil(body)
	if !bytes.Equal(again, list[0].Body) {
		t.Error("two answers of Find share bytes")
	}
	if !alike(l[:4], list) || !bytes.Equal(room, all) {
		t.Error("an answer shares bytes with the list")
	}
}

func TestDecodedBodiesShareNothing(t *testing.T) {
	l := []api.Param{of(1, 1, 2, 3), of(2, 4, 5, 6, 7), of(3), of(4, 8), of(5, 9, 9)}
	given := bytesOf(l)
	first, _, _ := Decode(given)
	second, _, _ := Decode(given)
	for i := range first {
		want := copied(first)
		spoil(first[i].Body)
		want[i] = first[i]
		if !alike(first, want) {
			t.Errorf("Body %d shares bytes with another one", i)
		}
	}
	if !alike(second, l) || !bytes.Equal(given, bytesOf(l)) {
		t.Error("an answer shares bytes with another one, or with what was handed in")
	}
}

func TestCausesShareNothing(t *testing.T) {
	for range 2 {
		user, _ := User("bye")
		for _, p := range []api.Param{Stale(1), Stream(1), NoData(1), user} {
			spoil(p.Body)
		}
		wantCause(t, "Stale", Stale(1), 3, 0, 0, 0, 1)
		wantCause(t, "Stream", Stream(1), 1, 0, 1, 0, 0)
		wantCause(t, "NoData", NoData(1), 9, 0, 0, 0, 1)
		again, _ := User("bye")
		wantCause(t, "User", again, 12, 'b', 'y', 'e')
	}
}

func TestTheSameAgain(t *testing.T) {
	good, bad := bytesOf(many(9)), []byte{0, 1, 0, 4, 0, 1, 0, 3}
	want, _, _ := Decode(good)
	for range 3 {
		fails(t, "again", bad, 4, 50)
		if got, at, e := Decode(good); e != api.OK || at != 0 || !alike(got, want) {
			t.Errorf("behind a fault: %v, %d, %d", got, at, e)
		}
		if _, e := Encode(many(257)...); e != api.ErrMany {
			t.Errorf("again: %d", e)
		}
		if b, e := Encode(want...); e != api.OK || !bytes.Equal(b, good) {
			t.Errorf("behind a refusal: %v, %d", b, e)
		}
	}
}

func FuzzDecode(f *testing.F) {
	f.Add([]byte{0, 7, 0, 7, 1, 2, 3, 9})
	f.Add([]byte{0, 1, 0, 4, 0, 7, 0, 9, 1, 2, 3, 4})
	f.Add(bytesOf(many(12)))
	f.Fuzz(func(t *testing.T, b []byte) {
		held(t, "any bytes", b)
		if l, _, e := Decode(b); e == api.OK {
			if again, e := Encode(l...); e != api.OK || !bytes.Equal(again, cleaned(b)) {
				t.Errorf("%v: %v, %d", b, again, e)
			}
		}
	})
}
