package serial

import (
	"slices"
	"testing"
)

const (
	half   = 1 << 31
	top    = 1<<32 - 1
	half16 = 1 << 15
	top16  = 1<<16 - 1
)

// edges are long numbers about which the order turns.
func edges() []uint32 {
	return []uint32{0, 1, 2, 3, 5, top16, top16 + 1, 0x12345678, half - 2, half - 1, half, half + 1, half + 2, 0xdeadbeef, top - 5, top - 1, top}
}

// edges16 are the short ones.
func edges16() []uint16 {
	return []uint16{0, 1, 2, 3, 255, 256, half16 - 2, half16 - 1, half16, half16 + 1, half16 + 2, 0xbeef, top16 - 1, top16}
}

// whole is the distance by whole numbers that do not wrap: all is how many numbers there are.
func whole(a, b, all int64) int64 {
	d := (b - a + all) % all
	if d >= all/2 {
		d -= all
	}
	return d
}

func TestWholeIsTheDefinition(t *testing.T) {
	const all = 1 << 16
	for _, a := range edges16() {
		for _, b := range edges16() {
			d := whole(int64(a), int64(b), all)
			if d < -all/2 || d > all/2-1 || (int64(a)+d+all)%all != int64(b) {
				t.Fatalf("the distance from %d to %d is not %d", a, b, d)
			}
		}
	}
}

// P1.1

func TestAdd(t *testing.T) {
	for _, c := range []struct{ a, n, want uint32 }{
		{0, 0, 0}, {5, 0, 5}, {0, 5, 5}, {2, 3, 5}, {7, 1000, 1007},
		{top, 0, top}, {top, 1, 0}, {top, 2, 1}, {1, top, 0}, {top, top, top - 1},
		{half, half, 0}, {half - 1, 1, half}, {half, half + 7, 7}, {top16, 1, top16 + 1},
	} {
		if got := Add(c.a, c.n); got != c.want {
			t.Errorf("Add(%d, %d) = %d, want %d", c.a, c.n, got, c.want)
		}
	}
	for _, a := range edges() {
		for _, n := range edges() {
			if got, want := int64(Add(a, n)), (int64(a)+int64(n))%(1<<32); got != want {
				t.Errorf("Add(%d, %d) = %d, want %d", a, n, got, want)
			}
		}
	}
}

func TestAdd16(t *testing.T) {
	for _, c := range []struct{ a, n, want uint16 }{
		{0, 0, 0}, {2, 3, 5}, {top16, 0, top16}, {top16, 1, 0}, {top16, 2, 1}, {1, top16, 0},
		{top16, top16, top16 - 1}, {half16, half16, 0}, {half16 - 1, 1, half16},
	} {
		if got := Add16(c.a, c.n); got != c.want {
			t.Errorf("Add16(%d, %d) = %d, want %d", c.a, c.n, got, c.want)
		}
	}
	for _, a := range edges16() {
		for n := range 1 << 16 {
			if got, want := int(Add16(a, uint16(n))), (int(a)+n)%(1<<16); got != want {
				t.Fatalf("Add16(%d, %d) = %d, want %d", a, n, got, want)
			}
		}
	}
}

// P1.2

func TestLess(t *testing.T) {
	for _, c := range []struct {
		a, b uint32
		want bool
	}{
		{1, 2, true}, {2, 1, false}, {1, 1000000, true}, {1000000, 1, false},
		{0, 0, false}, {5, 5, false}, {half, half, false}, {top, top, false},
		{top, 0, true}, {0, top, false}, {top - 5, 7, true}, {7, top - 5, false},
		{0, half - 1, true}, {half - 1, 0, false}, {0, half, false}, {half, 0, false},
		{0, half + 1, false}, {half + 1, 0, true}, {7, half + 7, false}, {half + 7, 7, false},
		{top, half - 1, false}, {half - 1, top, false}, {top16, top16 + 1, true}, {0, half16, true},
	} {
		if got := Less(c.a, c.b); got != c.want {
			t.Errorf("Less(%d, %d) = %v, want %v", c.a, c.b, got, c.want)
		}
	}
	for _, a := range edges() {
		for _, b := range edges() {
			if got, want := Less(a, b), whole(int64(a), int64(b), 1<<32) > 0; got != want {
				t.Errorf("Less(%d, %d) = %v, want %v", a, b, got, want)
			}
		}
	}
}

func TestLess16(t *testing.T) {
	for _, c := range []struct {
		a, b uint16
		want bool
	}{
		{1, 2, true}, {2, 1, false}, {5, 5, false}, {top16, 0, true}, {0, top16, false},
		{0, half16 - 1, true}, {half16 - 1, 0, false}, {0, half16, false}, {half16, 0, false},
		{0, half16 + 1, false}, {half16 + 1, 0, true}, {9, half16 + 9, false}, {half16 + 9, 9, false},
	} {
		if got := Less16(c.a, c.b); got != c.want {
			t.Errorf("Less16(%d, %d) = %v, want %v", c.a, c.b, got, c.want)
		}
	}
	for _, a := range edges16() {
		for b := range 1 << 16 {
			if got, want := Less16(a, uint16(b)), whole(int64(a), int64(b), 1<<16) > 0; got != want {
				t.Fatalf("Less16(%d, %d) = %v, want %v", a, b, got, want)
			}
		}
	}
}

// P1.3

func TestDiff(t *testing.T) {
	for _, c := range []struct {
		a, b uint32
		want int
	}{
		{0, 0, 0}, {5, 5, 0}, {top, top, 0}, {3, 10, 7}, {10, 3, -7},
		{top, 1, 2}, {1, top, -2}, {0, top, -1}, {top, 0, 1},
		{0, half - 1, half - 1}, {half - 1, 0, -half + 1}, {0, half + 1, -half + 1}, {half + 1, 0, half - 1},
		{0, half, -half}, {half, 0, -half}, {7, half + 7, -half}, {half + 7, 7, -half},
	} {
		if got := Diff(c.a, c.b); got != c.want {
			t.Errorf("Diff(%d, %d) = %d, want %d", c.a, c.b, got, c.want)
		}
	}
	for _, a := range edges() {
		for _, b := range edges() {
			if got, want := int64(Diff(a, b)), whole(int64(a), int64(b), 1<<32); got != want {
				t.Errorf("Diff(%d, %d) = %d, want %d", a, b, got, want)
			}
		}
	}
}

func TestDiff16(t *testing.T) {
	for _, c := range []struct {
		a, b uint16
		want int
	}{
		{0, 0, 0}, {9, 9, 0}, {3, 10, 7}, {10, 3, -7}, {top16, 1, 2}, {1, top16, -2},
		{0, half16 - 1, half16 - 1}, {0, half16 + 1, -half16 + 1},
		{0, half16, -half16}, {half16, 0, -half16}, {top16, half16 - 1, -half16},
	} {
		if got := Diff16(c.a, c.b); got != c.want {
			t.Errorf("Diff16(%d, %d) = %d, want %d", c.a, c.b, got, c.want)
		}
	}
	for _, a := range edges16() {
		for b := range 1 << 16 {
			if got, want := int64(Diff16(a, uint16(b))), whole(int64(a), int64(b), 1<<16); got != want {
				t.Fatalf("Diff16(%d, %d) = %d, want %d", a, b, got, want)
			}
		}
	}
}

// P1.4

func TestLast(t *testing.T) {
	const leap = 0x60000000
	for _, c := range []struct {
		a    uint32
		more []uint32
		want uint32
	}{
		{5, nil, 5}, {0, []uint32{}, 0}, {top, nil, top},
		{5, []uint32{6}, 6}, {6, []uint32{5}, 6}, {5, []uint32{5}, 5},
		{5, []uint32{top, 7}, 7}, {top, []uint32{0}, 0}, {0, []uint32{top}, 0},
		{3, []uint32{1, 9, 4, 9, 2}, 9}, {9, []uint32{1, 2, 3}, 9}, {1, []uint32{2, 3, 4}, 4},
		{top - 1, []uint32{2, top, 1}, 2},
		// Of numbers half of all apart none is ahead: the first one stays.
		{0, []uint32{half}, 0}, {half, []uint32{0}, half},
		{0, []uint32{half, 1}, 1}, {0, []uint32{half - 1, half}, half},
		// Three that go all the way round: the order in which they come tells.
		{0, []uint32{leap, 2 * leap}, 2 * leap},
		{0, []uint32{leap, 2 * leap, 0}, 0},
		{0, []uint32{2 * leap, leap}, leap},
		{leap, []uint32{0, 2 * leap}, 2 * leap},
		{leap, []uint32{2 * leap, 0}, 0},
	} {
		if got := Last(c.a, c.more...); got != c.want {
			t.Errorf("Last(%d, %v) = %d, want %d", c.a, c.more, got, c.want)
		}
	}
}

func TestLastLeavesItsArguments(t *testing.T) {
	more := []uint32{9, 1, 12, top}
	kept := slices.Clone(more)
	Last(5, more...)
	if !slices.Equal(more, kept) {
		t.Errorf("Last changed its arguments to %v", more)
	}
}

// P1.5

func TestWithin(t *testing.T) {
	for _, c := range []struct {
		a, low, high uint32
		want         bool
	}{
		{5, 3, 9, true}, {3, 3, 9, true}, {9, 3, 9, true}, {2, 3, 9, false}, {10, 3, 9, false},
		{4, 4, 4, true}, {3, 4, 4, false}, {5, 4, 4, false},
		{1, top, 3, true}, {top, top, 3, true}, {3, top, 3, true}, {4, top, 3, false}, {top - 1, top, 3, false},
		// Low above high: all but what lies between them.
		{2, 3, 1, false}, {3, 3, 1, true}, {1, 3, 1, true}, {half, 3, 1, true}, {0, 3, 1, true},
		{6, 9, 3, false}, {9, 9, 3, true}, {8, 9, 3, false}, {4, 9, 3, false},
		// Far apart: the distance is not cut at half of all.
		{half, 0, top, true}, {half + 5, 0, half + 5, true}, {half + 6, 0, half + 5, false},
		{half, 0, half, true}, {half + 1, 0, half, false}, {half - 1, 0, half, true}, {top, 0, half, false},
		{0, 0, top, true}, {top, 0, top, true}, {top, 0, 0, false},
	} {
		if got := Within(c.a, c.low, c.high); got != c.want {
			t.Errorf("Within(%d, %d, %d) = %v, want %v", c.a, c.low, c.high, got, c.want)
		}
	}
	const all = 1 << 32
	for _, a := range edges() {
		for _, low := range edges() {
			for _, high := range edges() {
				want := (int64(a)-int64(low)+all)%all <= (int64(high)-int64(low)+all)%all
				if got := Within(a, low, high); got != want {
					t.Errorf("Within(%d, %d, %d) = %v, want %v", a, low, high, got, want)
				}
			}
		}
	}
}

// P1.6

func count(l ...bool) int {
	n := 0
	for _, b := range l {
		if b {
			n++
		}
	}
	return n
}

func TestOneOfThree(t *testing.T) {
	for _, a := range edges() {
		for _, b := range edges() {
			want := 1
			if a-b == half {
				want = 0
			}
			if got := count(Less(a, b), Less(b, a), a == b); got != want {
				t.Errorf("%d and %d: %d of three hold, want %d", a, b, got, want)
			}
		}
	}
}

func TestOneOfThree16(t *testing.T) {
	for _, a := range edges16() {
		for n := range 1 << 16 {
			b, want := uint16(n), 1
			if a-b == half16 {
				want = 0
			}
			if got := count(Less16(a, b), Less16(b, a), a == b); got != want {
				t.Fatalf("%d and %d: %d of three hold, want %d", a, b, got, want)
			}
		}
	}
}

// P1.7

func TestFurther(t *testing.T) {
	steps := []uint32{1, 2, 1000, top16, half16, 0x12345678, half - 2, half - 1}
	for _, a := range edges() {
		for _, n := range steps {
			if b := Add(a, n); !Less(a, b) || Less(b, a) || Diff(a, b) != int(n) || Last(a, b) != b {
				t.Errorf("%d is not ahead of itself and %d", a, n)
			}
		}
		if Less(a, Add(a, 0)) || Less(a, Add(a, half)) || Less(a, Add(a, top)) {
			t.Errorf("%d is ahead of a number that it is not ahead of", a)
		}
	}
}

func TestFurther16(t *testing.T) {
	for _, a := range edges16() {
		for n := range uint16(half16) {
			if b := Add16(a, n); Less16(a, b) != (n > 0) || Diff16(a, b) != int(n) {
				t.Fatalf("%d and itself and %d are in the wrong order", a, n)
			}
		}
		if Less16(a, Add16(a, half16)) || Less16(a, Add16(a, top16)) {
			t.Errorf("%d is ahead of a number that it is not ahead of", a)
		}
	}
}

// P1.8

func TestMoved(t *testing.T) {
	for _, a := range edges() {
		for _, b := range edges() {
			for _, n := range edges() {
				c, d := Add(a, n), Add(b, n)
				if Less(c, d) != Less(a, b) || Diff(c, d) != Diff(a, b) || Last(c, d) != Add(Last(a, b), n) {
					t.Errorf("%d and %d change when both are moved by %d", a, b, n)
				}
				if Within(c, Add(5, n), d) != Within(a, 5, b) {
					t.Errorf("Within(%d, 5, %d) changes when all are moved by %d", a, b, n)
				}
			}
		}
	}
}

func TestMoved16(t *testing.T) {
	for _, a := range edges16() {
		for _, b := range edges16() {
			for n := range 1 << 16 {
				c, d := Add16(a, uint16(n)), Add16(b, uint16(n))
				if Less16(c, d) != Less16(a, b) || Diff16(c, d) != Diff16(a, b) {
					t.Fatalf("%d and %d change when both are moved by %d", a, b, n)
				}
			}
		}
	}
}

// The chapter's examples.

func TestExamples(t *testing.T) {
	if !Less(4294967295, 0) || Less(0, 2147483648) || Less(2147483648, 0) {
		t.Error("Less is not as in the examples")
	}
	if got := Diff(4294967295, 1); got != 2 {
		t.Errorf("Diff(4294967295, 1) = %d, want 2", got)
	}
	if got := Diff(2147483648, 0); got != -2147483648 {
		t.Errorf("Diff(2147483648, 0) = %d, want -2147483648", got)
	}
	if got := Last(5, 4294967295, 7); got != 7 {
		t.Errorf("Last(5, 4294967295, 7) = %d, want 7", got)
	}
	if !Within(1, 4294967295, 3) {
		t.Error("Within(1, 4294967295, 3) = false, want true")
	}
}
