package mac

import (
	"bytes"
	"encoding/binary"
	"slices"
	"testing"

	"ropewalk/api"
)

// rol, round and sealOf are the chapter's words: a row of bytes is filled up to whole eights and mixed by them.
func rol(x uint64, n int) uint64 { return x<<n | x>>(64-n) }

func round(a, b, c, d uint64) (uint64, uint64, uint64, uint64) {
	a += b
	b = rol(b, 13) ^ a
	a = rol(a, 32)
	c += d
	d = rol(d, 16) ^ c
	a += d
	d = rol(d, 21) ^ a
	c += b
	b = rol(b, 17) ^ c
	c = rol(c, 32)
	return a, b, c, d
}

func sealOf(key api.Key, row []byte) uint64 {
	k, l := binary.LittleEndian.Uint64(key[:8]), binary.LittleEndian.Uint64(key[8:])
	a, b, c, d := k^0x736f6d6570736575, l^0x646f72616e646f6d, k^0x6c7967656e657261, l^0x7465646279746573
	filled := bytes.Clone(row)
	for len(filled)%8 != 7 {
		filled = append(filled, 0)
	}
	filled = append(filled, byte(len(row)%256))
	for eight := range slices.Chunk(filled, 8) {
		m := binary.LittleEndian.Uint64(eight)
		d ^= m
		a, b, c, d = round(a, b, c, d)
		a, b, c, d = round(a, b, c, d)
		a ^= m
	}
	c ^= 255
	for range 4 {
		a, b, c, d = round(a, b, c, d)
	}
	return a ^ b ^ c ^ d
}

// rowOf is the row that parts make.
func rowOf(parts ...[]byte) []byte {
	var row []byte
	for _, part := range parts {
		row = binary.LittleEndian.AppendUint64(row, uint64(len(part)))
		row = append(row, part...)
	}
	return row
}

// some is n bytes that hang on the seed alone.
func some(n int, seed uint32) []byte {
	b := make([]byte, n)
	for i := range b {
		seed = seed*1664525 + 1013904223
		b[i] = byte(seed >> 24)
	}
	return b
}

// rising is the bytes 0, 1, 2 and so on.
func rising(n int) []byte {
	b := make([]byte, n)
	for i := range b {
		b[i] = byte(i)
	}
	return b
}

// exampleKey is the key 0, 1, 2 .. 15.
func exampleKey() api.Key { return api.Key(rising(16)) }

func keys() []api.Key {
	list := []api.Key{{}, api.Key(bytes.Repeat([]byte{0xFF}, 16)), exampleKey(), {0: 1}, {7: 0x80}, {8: 1}, {15: 0x80}}
	for seed := range uint32(4) {
		list = append(list, api.Key(some(16, seed)))
	}
	return list
}

// lengths are 0 to 40, and those at which the number of bytes wraps.
func lengths() []int {
	var list []int
	for n := range 41 {
		list = append(list, n)
	}
	return append(list, 63, 64, 65, 127, 128, 247, 248, 249, 254, 255, 256, 257, 263, 264, 265, 511, 512, 513, 1500, 65535, 65536, 65537)
}

// P4.1

func TestBytesOfTheExamples(t *testing.T) {
	if got := Bytes(exampleKey(), nil); got != 0x726fdb47dd0e0e31 {
		t.Errorf("Bytes of nothing = %016x", got)
	}
	if got := Bytes(exampleKey(), rising(15)); got != 0xa129ca6149be45e5 {
		t.Errorf("Bytes of 0 to 14 = %016x", got)
	}
}

// These are the reference's own seals of 0 to 15 rising bytes, as texts.
func TestBytesIsSipHash(t *testing.T) {
	for n, want := range []uint64{
		0x310e0edd47db6f72, 0xfd67dc93c539f874, 0x5a4fa9d909806c0d, 0x2d7efbd796666785,
		0xb7877127e09427cf, 0x8da699cd64557618, 0xcee3fe586e46c9cb, 0x37d1018bf50002ab,
		0x6224939a79f5f593, 0xb0e4a90bdf82009e, 0xf3b9dd94c5bb5d7a, 0xa7ad6b22462fb3f4,
		0xfbe50e86bc8f1e75, 0x903d84c02756ea14, 0xeef27a8e90ca23f7, 0xe545be4961ca29a1,
	} {
		text := Text(Bytes(exampleKey(), rising(n)))
		if got := binary.BigEndian.Uint64(text); got != want {
			t.Errorf("of %d bytes: %016x, want %016x", n, got, want)
		}
	}
}

func TestBytesOfEveryLength(t *testing.T) {
	for i, key := range keys() {
		for _, n := range lengths() {
			for _, b := range [][]byte{make([]byte, n), bytes.Repeat([]byte{0xFF}, n), rising(n), some(n, uint32(i+n))} {
				if got, want := Bytes(key, b), sealOf(key, b); got != want {
					t.Fatalf("key %x, %d bytes: %016x, want %016x", key, n, got, want)
				}
			}
		}
	}
}

func TestBytesOfOneByte(t *testing.T) {
	for _, key := range keys() {
		for octet := range 256 {
			b := []byte{byte(octet)}
			if got, want := Bytes(key, b), sealOf(key, b); got != want {
				t.Fatalf("key %x, byte %d: %016x, want %016x", key, octet, got, want)
			}
		}
	}
}

func TestBytesOfNothing(t *testing.T) {
	for _, key := range keys() {
		want := sealOf(key, nil)
		if Bytes(key, nil) != want || Bytes(key, []byte{}) != want || Bytes(key, some(9, 1)[:0]) != want {
			t.Errorf("key %x: nothing has several seals", key)
		}
	}
}

// The seal counts the bytes modulo 256: zeros alone are told from one another all the same.
func TestBytesOfZeros(t *testing.T) {
	seen := map[uint64]int{}
	for n := range 600 {
		x := Bytes(exampleKey(), make([]byte, n))
		if before, ok := seen[x]; ok {
			t.Errorf("%d and %d zeros have one seal", before, n)
		}
		seen[x] = n
	}
}

func TestBytesHangsOnEveryBit(t *testing.T) {
	key, b := exampleKey(), some(21, 3)
	want := Bytes(key, b)
	for bit := range 128 {
		other := key
		other[bit/8] ^= 1 << (bit % 8)
		if Bytes(other, b) == want || Bytes(other, b) != sealOf(other, b) {
			t.Errorf("bit %d of the key is turned", bit)
		}
	}
	for bit := range 8 * len(b) {
		other := bytes.Clone(b)
		other[bit/8] ^= 1 << (bit % 8)
		if Bytes(key, other) == want || Bytes(key, other) != sealOf(key, other) {
			t.Errorf("bit %d of the bytes is turned", bit)
		}
	}
}

func TestSum(t *testing.T) {
	for _, key := range keys() {
		for _, parts := range [][][]byte{
			nil, {nil}, {{}}, {nil, nil}, {{0}}, {{0}, nil}, {nil, {0}},
			{rising(7)}, {rising(8)}, {rising(9)}, {rising(7), rising(8), rising(9)},
			{some(3, 1), nil, some(5, 2), {}, some(1, 3)},
			{some(48, 4)}, {some(255, 5), some(256, 6), some(257, 7)}, {some(65536, 8), some(1, 9)},
		} {
			if got, want := Sum(key, parts...), sealOf(key, rowOf(parts...)); got != want {
				t.Errorf("key %x, %d parts: %016x, want %016x", key, len(parts), got, want)
			}
		}
	}
}

func TestSumOfEveryLength(t *testing.T) {
	for i, key := range keys() {
		for _, n := range lengths() {
			one, two := some(n, uint32(n)), some(i, uint32(i))
			if got, want := Sum(key, one), sealOf(key, rowOf(one)); got != want {
				t.Fatalf("key %x, one part of %d bytes: %016x, want %016x", key, n, got, want)
			}
			if got, want := Sum(key, two, one, two), sealOf(key, rowOf(two, one, two)); got != want {
				t.Fatalf("key %x, a part of %d bytes among others: %016x, want %016x", key, n, got, want)
			}
		}
	}
}

func TestSumOfManyParts(t *testing.T) {
	parts := make([][]byte, 5000)
	for i := range parts {
		parts[i] = some(i%19, uint32(i))
	}
	if got, want := Sum(exampleKey(), parts...), sealOf(exampleKey(), rowOf(parts...)); got != want {
		t.Errorf("%016x, want %016x", got, want)
	}
}

// P4.2

// seals are numbers that have bytes of all kinds at all places.
func seals() []uint64 {
	list := []uint64{0, 1, 0x0102030405060708, 0x8000000000000000, 1<<64 - 2, 1<<64 - 1}
	for bit := range 64 {
		list = append(list, 1<<bit, ^(uint64(1) << bit))
	}
	for n := range 20 {
		list = append(list, sealOf(exampleKey(), rising(n)))
	}
	return list
}

func TestText(t *testing.T) {
	for _, c := range []struct {
		x    uint64
		want []byte
	}{
		{0, []byte{0, 0, 0, 0, 0, 0, 0, 0}},
		{1, []byte{1, 0, 0, 0, 0, 0, 0, 0}},
		{256, []byte{0, 1, 0, 0, 0, 0, 0, 0}},
		{1 << 63, []byte{0, 0, 0, 0, 0, 0, 0, 128}},
		{0x0102030405060708, []byte{8, 7, 6, 5, 4, 3, 2, 1}},
		{1<<64 - 1, []byte{255, 255, 255, 255, 255, 255, 255, 255}},
	} {
		if got := Text(c.x); !bytes.Equal(got, c.want) {
			t.Errorf("Text(%x) = %v, want %v", c.x, got, c.want)
		}
	}
	for _, x := range seals() {
		if got := Text(x); len(got) != 8 || binary.LittleEndian.Uint64(got) != x {
			t.Errorf("Text(%x) = %v", x, got)
		}
	}
}

func TestSame(t *testing.T) {
	for _, c := range []struct {
		seal []byte
		x    uint64
		want bool
	}{
		{[]byte{0, 0, 0, 0, 0, 0, 0, 0}, 0, true},
		{[]byte{1, 0, 0, 0, 0, 0, 0, 0}, 1, true},
		{[]byte{0, 0, 0, 0, 0, 0, 0, 1}, 1, false},
		{[]byte{0, 0, 0, 0, 0, 0, 0, 1}, 1 << 56, true},
		{[]byte{8, 7, 6, 5, 4, 3, 2, 1}, 0x0102030405060708, true},
		{[]byte{1, 2, 3, 4, 5, 6, 7, 8}, 0x0102030405060708, false},
		{bytes.Repeat([]byte{255}, 8), 1<<64 - 1, true},
		{bytes.Repeat([]byte{255}, 8), 0, false},
		{make([]byte, 8), 1<<64 - 1, false},
	} {
		if got := Same(c.seal, c.x); got != c.want {
			t.Errorf("Same(%v, %x) = %v", c.seal, c.x, got)
		}
	}
}

func TestSameOfOtherLengths(t *testing.T) {
	for _, x := range seals() {
		text := binary.LittleEndian.AppendUint64(nil, x)
		if !Same(text, x) {
			t.Errorf("Same(%v, %x) = false", text, x)
		}
		if Same(nil, x) || Same([]byte{}, x) {
			t.Errorf("nothing is the text of %x", x)
		}
		for n := range 8 {
			if Same(text[:n], x) || Same(text[n+1:], x) {
				t.Errorf("%d bytes are the text of %x", n, x)
			}
		}
		for _, more := range [][]byte{{0}, {255}, text[:1], {0, 0}, text, make([]byte, 8), make([]byte, 248), make([]byte, 256)} {
			if Same(slices.Concat(text, more), x) || Same(slices.Concat(more, text), x) {
				t.Errorf("%d bytes are the text of %x", 8+len(more), x)
			}
		}
	}
}

func TestSameAtEveryBit(t *testing.T) {
	for _, x := range seals() {
		for bit := range 64 {
			text := binary.LittleEndian.AppendUint64(nil, x)
			text[bit/8] ^= 1 << (bit % 8)
			if Same(text, x) || !Same(text, x^1<<bit) {
				t.Errorf("bit %d of the text of %x is turned", bit, x)
			}
		}
	}
}

// P4.3

func TestSumIsBytesOfTheRow(t *testing.T) {
	for _, key := range keys() {
		if Sum(key) != Bytes(key, nil) || Sum(key, [][]byte{}...) != Bytes(key, nil) {
			t.Errorf("key %x: no parts are not the empty row", key)
		}
		if Sum(key, nil) != Bytes(key, make([]byte, 8)) || Sum(key, []byte{}) != Bytes(key, make([]byte, 8)) {
			t.Errorf("key %x: an empty part is not the row of its length", key)
		}
		for _, parts := range [][][]byte{
			{{5}}, {some(8, 1)}, {some(9, 2), nil, some(300, 3)}, {rising(255), rising(256), rising(257)},
		} {
			if Sum(key, parts...) != Bytes(key, rowOf(parts...)) {
				t.Errorf("key %x, %d parts: not the row's seal", key, len(parts))
			}
		}
	}
	// A part that has other parts in it, with their lengths, is no row of them.
	if parts := rowOf([]byte("a"), []byte("b")); Sum(exampleKey(), parts) == Sum(exampleKey(), []byte("a"), []byte("b")) {
		t.Error("a row as a part is its parts")
	}
}

func TestNilAndEmptyPartsAreTheSame(t *testing.T) {
	key := exampleKey()
	if Sum(key, nil, []byte("a"), nil) != Sum(key, []byte{}, []byte("a"), []byte{}) || Sum(key, nil) != Sum(key, []byte{}) {
		t.Error("a nil part is another one than an empty part")
	}
}

func TestOtherCutsAreOtherRows(t *testing.T) {
	key, b := exampleKey(), make([]byte, 16)
	seen := map[uint64][]int{}
	tell := func(cut []int, parts ...[]byte) {
		x := Sum(key, parts...)
		if before, ok := seen[x]; ok {
			t.Errorf("cut at %v and at %v: one seal", before, cut)
		}
		seen[x] = cut
	}
	tell(nil)
	for i := range len(b) + 1 {
		tell([]int{i}, b[:i])
	}
	for i := range len(b) + 1 {
		tell([]int{i, 16}, b[:i], b[i:])
		for j := i; j <= len(b); j++ {
			tell([]int{i, j, 16}, b[:i], b[i:j], b[j:])
		}
	}
}

func TestEmptyPartsCount(t *testing.T) {
	key := exampleKey()
	seen := map[uint64]int{}
	for n := range 100 {
		x := Sum(key, make([][]byte, n)...)
		if before, ok := seen[x]; ok {
			t.Errorf("%d and %d empty parts: one seal", before, n)
		}
		seen[x] = n
	}
	a := []byte("a")
	if Sum(key, a) == Sum(key, a, nil) || Sum(key, a) == Sum(key, nil, a) || Sum(key, a, nil) == Sum(key, nil, a) {
		t.Error("an empty part beside another one plays no part")
	}
}

func TestOrderOfParts(t *testing.T) {
	one, two := some(8, 1), some(8, 2)
	if Sum(exampleKey(), one, two) == Sum(exampleKey(), two, one) {
		t.Error("the order of the parts plays no part")
	}
}

// P4.4

func TestSealsThereAndBack(t *testing.T) {
	for _, key := range keys() {
		for _, n := range lengths() {
			b := some(n, uint32(n))
			for _, x := range []uint64{Bytes(key, b), Sum(key, b), Sum(key, b[:n/2], b[n/2:])} {
				if !Same(Text(x), x) {
					t.Fatalf("key %x, %d bytes: the seal %x is not known", key, n, x)
				}
			}
		}
	}
	for _, x := range seals() {
		if !Same(Text(x), x) {
			t.Errorf("the seal %x is not known", x)
		}
	}
}

func TestNoOtherEightBytes(t *testing.T) {
	x := Sum(exampleKey(), []byte("what is sealed"))
	for bit := range 64 {
		for second := range 64 {
			text := Text(x)
			text[bit/8] ^= 1 << (bit % 8)
			text[second/8] ^= 1 << (second % 8)
			if Same(text, x) != (bit == second) {
				t.Errorf("bits %d and %d are turned", bit, second)
			}
		}
	}
	for place := range 8 {
		for octet := range 256 {
			text := Text(x)
			was := text[place]
			text[place] = byte(octet)
			if Same(text, x) != (byte(octet) == was) {
				t.Errorf("byte %d is %d", place, octet)
			}
		}
	}
}

func TestOtherBytesAreNotKnown(t *testing.T) {
	key, b := exampleKey(), []byte("what is sealed")
	text := Text(Sum(key, b))
	if Same(text, Sum(api.Key{}, b)) || Same(text, Sum(key, b[:13])) || Same(text, Sum(key, b, nil)) || Same(text, Bytes(key, b)) {
		t.Error("the seal of something else is known")
	}
	for bit := range 8 * len(b) {
		other := bytes.Clone(b)
		other[bit/8] ^= 1 << (bit % 8)
		if Same(text, Sum(key, other)) {
			t.Errorf("bit %d is turned, and the seal is known", bit)
		}
	}
}

// Rules 4 and 5

func TestNothingIsChanged(t *testing.T) {
	key, b, spare := exampleKey(), some(40, 20), some(40, 20)
	parts := [][]byte{b[:10], b[10:12], nil, {}, b[12:30]}
	Bytes(key, b[:20])
	Sum(key, parts...)
	Same(b[:8], 7)
	Same(b[:9], 7)
	if !bytes.Equal(b, spare) || key != exampleKey() {
		t.Error("what was handed in has changed")
	}
	for i, want := range [][]byte{spare[:10], spare[10:12], nil, {}, spare[12:30]} {
		if !bytes.Equal(parts[i], want) || (parts[i] == nil) != (want == nil) {
			t.Errorf("part %d has changed", i)
		}
	}
}

func TestNothingIsKept(t *testing.T) {
	key, b := exampleKey(), some(20, 21)
	parts := [][]byte{b[:9], b[9:]}
	one, two := Bytes(key, b), Sum(key, parts...)
	for i := range b {
		b[i] ^= 0xFF
	}
	parts[0], parts[1] = nil, []byte("other")
	if old := some(20, 21); Bytes(key, old) != one || Sum(key, old[:9], old[9:]) != two {
		t.Error("a later change of what was handed in changes an answer")
	}
	if Bytes(key, b) != sealOf(key, b) || Sum(key, parts...) != sealOf(key, rowOf(nil, []byte("other"))) {
		t.Error("what was handed in before plays a part")
	}
}

func TestTextsAreNewMemory(t *testing.T) {
	one, two := Text(0x0102030405060708), Text(0x0102030405060708)
	for i := range one {
		one[i] = 0xEE
	}
	if want := []byte{8, 7, 6, 5, 4, 3, 2, 1}; !bytes.Equal(two, want) || !bytes.Equal(Text(0x0102030405060708), want) {
		t.Error("two texts share memory")
	}
	if !Same(two, 0x0102030405060708) || Same(one, 0x0102030405060708) {
		t.Error("a text that was told and changed plays a part")
	}
	// What is put behind a text stands in no other one.
	three := Text(5)
	_ = append(three, 1, 2, 3)
	if !bytes.Equal(Text(5), []byte{5, 0, 0, 0, 0, 0, 0, 0}) {
		t.Error("a text that was made longer changes another one")
	}
}

func TestTheSameAgain(t *testing.T) {
	key, other, b := exampleKey(), api.Key{}, some(50, 30)
	one, two := Bytes(key, b), Sum(key, b[:25], b[25:])
	for range 3 {
		Bytes(other, b[:3])
		Sum(other, b[:3], nil)
		if Bytes(key, b) != one || Sum(key, b[:25], b[25:]) != two || !Same(Text(one), one) || !bytes.Equal(Text(two), Text(two)) {
			t.Fatal("the answer hangs on a call before")
		}
	}
}
