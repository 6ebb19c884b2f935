package crc

import (
	"bytes"
	"hash/crc32"
	"math/bits"
	"slices"
	"testing"

	"ropewalk/api"
)

// remainder is the chapter's word, bit by bit.
func remainder(r uint32, row []byte) uint32 {
	for _, octet := range row {
		r ^= uint32(octet)
		for range 8 {
			if r&1 == 1 {
				r = r>>1 ^ 0x82F63B78
			} else {
				r >>= 1
			}
		}
	}
	return r
}

// row is n bytes that hang on the seed alone.
func row(n int, seed uint32) []byte {
	b := make([]byte, n)
	for i := range b {
		seed = seed*1664525 + 1013904223
		b[i] = byte(seed >> 24)
	}
	return b
}

// remainders are those from which the tests begin.
func remainders() []uint32 {
	return []uint32{0, 1, 2, 5, 0x0F, 0x10, 0xFF, 0x100, 0x82F63B78, 0x7FFFFFFF, 0x80000000, 0xDEADBEEF, 0xFFFFFFFE, 0xFFFFFFFF}
}

// with is a copy of the packet in which bytes 8 to 11 are the number, its lowest byte first.
func with(packet []byte, sum uint32) []byte {
	b := bytes.Clone(packet)
	b[8], b[9], b[10], b[11] = byte(sum), byte(sum>>8), byte(sum>>16), byte(sum>>24)
	return b
}

// P2.1

func TestExtendOneByte(t *testing.T) {
	for _, r := range remainders() {
		for octet := range 256 {
			if got, want := Extend(r, []byte{byte(octet)}), remainder(r, []byte{byte(octet)}); got != want {
				t.Fatalf("Extend(%08X, %d) = %08X, want %08X", r, octet, got, want)
			}
		}
	}
}

func TestExtendRows(t *testing.T) {
	for _, r := range remainders() {
		for _, n := range []int{0, 1, 2, 3, 4, 5, 8, 11, 12, 13, 100, 1500, 65536} {
			b := row(n, r+uint32(n))
			if got, want := Extend(r, b), remainder(r, b); got != want {
				t.Errorf("Extend(%08X, %d bytes) = %08X, want %08X", r, n, got, want)
			}
		}
	}
}

func TestExtendWithoutBytes(t *testing.T) {
	for _, r := range remainders() {
		if Extend(r) != r || Extend(r, nil) != r || Extend(r, []byte{}) != r || Extend(r, [][]byte{}...) != r || Extend(r, nil, []byte{}, nil) != r {
			t.Errorf("no byte moves the remainder %08X", r)
		}
	}
}

func TestExtendGoesOn(t *testing.T) {
	a, b := row(17, 1), row(40, 2)
	for _, r := range remainders() {
		want := remainder(r, slices.Concat(a, b))
		if got := Extend(Extend(r, a), b); got != want {
			t.Errorf("from %08X, call by call: %08X, want %08X", r, got, want)
		}
		if got := Extend(r, a, b); got != want {
			t.Errorf("from %08X, in one call: %08X, want %08X", r, got, want)
		}
	}
	if Extend(7, a, b) == Extend(7, b, a) {
		t.Error("the order of the parts plays no part")
	}
}

func TestSumOfTheExamples(t *testing.T) {
	for _, c := range []struct {
		b    []byte
		want uint32
	}{
		{[]byte("123456789"), 0xE3069283},
		{nil, 0},
		{[]byte{}, 0},
		{make([]byte, 32), 0x8A9136AA},
		{bytes.Repeat([]byte{0xFF}, 32), 0x62A8AB43}, // this one and the next are of RFC 3720
		{[]byte{0, 1, 2, 3, 4, 5, 6, 7, 8, 9, 10, 11, 12, 13, 14, 15, 16, 17, 18, 19, 20, 21, 22, 23, 24, 25, 26, 27, 28, 29, 30, 31}, 0x46DD794E},
	} {
		if got := Sum(c.b); got != c.want {
			t.Errorf("Sum(%x) = %08X, want %08X", c.b, got, c.want)
		}
	}
	if Sum() != 0 || Sum(nil, nil) != 0 {
		t.Error("the sum of nothing is not 0")
	}
}

func TestSumIsCastagnoli(t *testing.T) {
	table := crc32.MakeTable(crc32.Castagnoli)
	for n := range 300 {
		b := row(n, uint32(n))
		if got, want := Sum(b), crc32.Checksum(b, table); got != want {
			t.Errorf("Sum of %d bytes = %08X, want %08X", n, got, want)
		}
		if got, want := Sum(b), ^Extend(0xFFFFFFFF, b); got != want {
			t.Errorf("Sum of %d bytes = %08X, the turned remainder %08X", n, got, want)
		}
	}
}

// P2.2

func TestPut(t *testing.T) {
	for _, n := range []int{12, 13, 14, 15, 16, 20, 100, 1500, 65536} {
		for seed := range uint32(3) {
			packet := row(n, seed)
			want := with(packet, Sum(with(packet, 0)))
			got, e := Put(packet)
			if e != api.OK || !bytes.Equal(got, want) {
				t.Errorf("Put of %d bytes: %v, wrong bytes", n, e)
			}
		}
	}
}

func TestPutLowestByteFirst(t *testing.T) {
	got, e := Put(make([]byte, 32))
	if want := with(make([]byte, 32), 0x8A9136AA); e != api.OK || !bytes.Equal(got, want) {
		t.Errorf("Put of 32 bytes 0: %x, %v", got, e)
	}
	if !bytes.Equal(got[8:12], []byte{0xAA, 0x36, 0x91, 0x8A}) {
		t.Errorf("the sum stands as %x", got[8:12])
	}
}

func TestPutLooksPastTheOldSum(t *testing.T) {
	packet := row(24, 9)
	want, _ := Put(packet)
	for _, old := range remainders() {
		if got, e := Put(with(packet, old)); e != api.OK || !bytes.Equal(got, want) {
			t.Errorf("the old sum %08X plays a part", old)
		}
	}
	if again, e := Put(want); e != api.OK || !bytes.Equal(again, want) {
		t.Error("Put of what has its sum is another one")
	}
}

func TestBrief(t *testing.T) {
	for n := range 12 {
		for _, packet := range [][]byte{make([]byte, n), row(n, 3), row(100, 3)[:n]} {
			if got, e := Put(packet); got != nil || e != api.ErrBrief {
				t.Errorf("Put of %d bytes: %x, %v", n, got, e)
			}
			if e := Check(packet); e != api.ErrBrief {
				t.Errorf("Check of %d bytes: %v", n, e)
			}
		}
	}
	if got, e := Put(nil); got != nil || e != api.ErrBrief {
		t.Errorf("Put of nil: %x, %v", got, e)
	}
	if e := Check(nil); e != api.ErrBrief {
		t.Errorf("Check of nil: %v", e)
	}
	if api.ErrBrief != 20 || api.ErrCrc != 21 || api.OK != 0 {
		t.Error("the errors' numbers")
	}
}

func TestCheck(t *testing.T) {
	for _, n := range []int{12, 13, 16, 33, 1500} {
		packet := row(n, uint32(n))
		right, _ := Put(packet)
		if e := Check(right); e != api.OK {
			t.Errorf("Check of %d bytes with their sum: %v", n, e)
		}
		sum := Sum(with(packet, 0))
		for _, other := range []uint32{^sum, sum + 1, sum ^ 1, sum ^ 1<<31, bits.ReverseBytes32(sum), 0, Sum(right)} {
			if e := Check(with(packet, other)); e != api.ErrCrc {
				t.Errorf("Check of %d bytes with %08X instead of %08X: %v", n, other, sum, e)
			}
		}
	}
}

func TestCheckIsPut(t *testing.T) {
	packet := row(12, 77)
	for sum := uint32(0); sum < 1<<16; sum++ {
		packet = with(packet, sum*0x9E3779B1)
		put, _ := Put(packet)
		if (Check(packet) == api.OK) != bytes.Equal(put, packet) {
			t.Fatalf("Check and Put disagree on %x", packet)
		}
	}
}

func TestCheckAtEveryBit(t *testing.T) {
	right, _ := Put(row(20, 5))
	for i := range right {
		for bit := range 8 {
			right[i] ^= 1 << bit
			if e := Check(right); e != api.ErrCrc {
				t.Errorf("bit %d of byte %d is turned: %v", bit, i, e)
			}
			right[i] ^= 1 << bit
		}
	}
}

func TestCheckAtOtherLengths(t *testing.T) {
	right, _ := Put(row(20, 6))
	if e := Check(right[:19]); e != api.ErrCrc {
		t.Errorf("a byte is missing: %v", e)
	}
	if e := Check(append(bytes.Clone(right), 0)); e != api.ErrCrc {
		t.Errorf("a byte too many: %v", e)
	}
}

// P2.3

func TestPartsOfAnyLengths(t *testing.T) {
	b := row(41, 4)
	want, extended := Sum(b), Extend(0x1234, b)
	for i := range len(b) + 1 {
		for j := i; j <= len(b); j++ {
			parts := [][]byte{nil, b[:i], {}, b[i:j], b[j:], nil}
			if Sum(parts...) != want || Extend(0x1234, parts...) != extended {
				t.Fatalf("cut at %d and %d: another sum", i, j)
			}
		}
	}
	if Sum(slices.Collect(slices.Chunk(b, 1))...) != want {
		t.Error("byte by byte: another sum")
	}
}

func TestPartsManyOfThem(t *testing.T) {
	b := row(65536, 8)
	if Sum(slices.Collect(slices.Chunk(b, 1))...) != Sum(b) || Sum(slices.Collect(slices.Chunk(b, 1000))...) != Sum(b) {
		t.Error("many parts: another sum")
	}
}

// P2.4

// turn lays 32 bits on a packet from a bit on; of each byte the lowest bit is the first one.
func turn(packet []byte, from int, burst uint32) {
	for k := range 32 {
		if at := from + k; burst>>k&1 == 1 && at < 8*len(packet) {
			packet[at/8] ^= 1 << (at % 8)
		}
	}
}

func TestBursts(t *testing.T) {
	right, _ := Put(row(40, 12))
	seed := uint32(1)
	for from := range 8 * len(right) {
		for n := range 200 {
			seed = seed*1664525 + 1013904223
			burst := seed | 1
			if n < 32 {
				burst = 1 << n
			}
			packet := bytes.Clone(right)
			turn(packet, from, burst)
			copy(packet[8:12], right[8:12])
			if !bytes.Equal(packet, right) && Check(packet) != api.ErrCrc {
				t.Fatalf("both are taken: from bit %d, %08X", from, burst)
			}
		}
	}
}

// A burst of 33 bits that is the polynomial itself is the shortest that goes through: its first 32 bits alone do not.
func TestBurstsUpToThePolynomial(t *testing.T) {
	const beginning = 1 | 0x82F63B78<<1&0xFFFFFFFF
	right, _ := Put(make([]byte, 40))
	for from := 96; from+33 <= 8*len(right); from++ {
		packet := bytes.Clone(right)
		turn(packet, from, beginning)
		if Check(packet) != api.ErrCrc {
			t.Fatalf("32 bits from bit %d on go through", from)
		}
		turn(packet, from+32, 1)
		if Check(packet) != api.OK {
			t.Fatalf("the polynomial from bit %d on does not go through", from)
		}
	}
}

// P2.5

func TestLinear(t *testing.T) {
	for _, n := range []int{0, 1, 2, 3, 4, 7, 12, 32, 100, 1500} {
		for seed := range uint32(5) {
			a, b, c := row(n, seed), row(n, seed+100), row(n, seed*seed+1000)
			all := make([]byte, n)
			for i := range all {
				all[i] = a[i] ^ b[i] ^ c[i]
			}
			if got, want := Sum(all), Sum(a)^Sum(b)^Sum(c); got != want {
				t.Errorf("of %d bytes: %08X, want %08X", n, got, want)
			}
		}
	}
}

// Rule 4

func TestNothingIsChanged(t *testing.T) {
	packet, spare := row(40, 20), row(40, 20)
	parts := [][]byte{packet[:10], packet[10:12], nil, packet[12:30]}
	Extend(1, parts...)
	Sum(parts...)
	Put(packet[:30])
	Put(packet[:5])
	Check(packet[:30])
	Check(packet[:5])
	if !bytes.Equal(packet, spare) {
		t.Error("what was handed in has changed")
	}
	if !bytes.Equal(parts[0], spare[:10]) || !bytes.Equal(parts[1], spare[10:12]) || parts[2] != nil || !bytes.Equal(parts[3], spare[12:30]) {
		t.Error("the parts have changed")
	}
}

func TestNothingIsShared(t *testing.T) {
	for _, n := range []int{12, 13, 40} {
		packet := row(n, 21)
		one, _ := Put(packet)
		two, _ := Put(packet)
		three, _ := Put(one)
		want := bytes.Clone(one)
		for i := range n {
			packet[i]++
			two[i]++
			three[i]++
		}
		if !bytes.Equal(one, want) {
			t.Errorf("an answer of %d bytes shares memory", n)
		}
		if len(one) != n {
			t.Errorf("Put of %d bytes: %d bytes", n, len(one))
		}
	}
}

func TestTheSameAgain(t *testing.T) {
	b := row(50, 30)
	first, _ := Put(b)
	for range 3 {
		again, e := Put(b)
		if Sum(b) != Sum(b) || Extend(9, b) != Extend(9, b) || e != api.OK || !bytes.Equal(first, again) {
			t.Fatal("the answer hangs on a call before")
		}
	}
}
