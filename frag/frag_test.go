package frag

import (
	"bytes"
	"math"
	"math/rand"
	"slices"
	"strings"
	"testing"

	"ropewalk/api"
)

// piece is the one that a text tells: "(" ahead of its data is Begin, ")" behind it End.
func piece(text string) api.Piece {
	data, begin := strings.CutPrefix(text, "(")
	data, end := strings.CutSuffix(data, ")")
	return api.Piece{Begin: begin, End: end, Data: []byte(data)}
}

func row(texts ...string) []api.Piece {
	var list []api.Piece
	for _, text := range texts {
		list = append(list, piece(text))
	}
	return list
}

// split is a row in one text, pieces told apart by "|".
func split(text string) []api.Piece { return row(strings.Split(text, "|")...) }

// bare is a row with nil for each list that is empty.
func bare(l []api.Piece) []api.Piece {
	list := slices.Clone(l)
	for i, p := range list {
		if len(p.Data) == 0 {
			list[i].Data = nil
		}
	}
	return list
}

// blown is a row whose pieces with data have so many bytes each.
func blown(l []api.Piece, n int) []api.Piece {
	list := slices.Clone(l)
	for i, p := range list {
		if len(p.Data) > 0 {
			list[i].Data = bytes.Repeat(p.Data[:1], n)
		}
	}
	return list
}

// sized is a message in pieces of so many bytes.
func sized(sizes ...int) []api.Piece {
	var list []api.Piece
	for i, n := range sizes {
		list = append(list, api.Piece{Begin: i == 0, End: i == len(sizes)-1, Data: bytes.Repeat([]byte{byte('a' + i%26)}, n)})
	}
	return list
}

// open is a message that is not ended.
func open(sizes ...int) []api.Piece {
	list := sized(sizes...)
	list[len(list)-1].End = false
	return list
}

// plain is a message of so many bytes that tell their places.
func plain(n int) []byte {
	b := make([]byte, n)
	for i := range b {
		b[i] = byte(i ^ i>>8)
	}
	return b
}

func wrongNs() []int {
	return []int{math.MinInt, -1 << 32, -65536, -1, 0, 65537, 65538, 1<<32 + 1, math.MaxInt}
}

func goodNs() []int { return []int{1, 2, 3, 32767, 32768, 32769, 65534, 65535, 65536} }

func TestNumbersOfErrorsAndLimits(t *testing.T) {
	if api.OK != 0 || api.ErrArg != 1 || api.ErrLong != 2 || api.ErrPiece != 150 {
		t.Error("another number of an error")
	}
	if api.MaxMessage != maxMessage || maxMessage != 1<<16 {
		t.Error("another limit")
	}
}

func TestExample(t *testing.T) {
	l, e := Cut([]byte("abcde"), 2)
	if !samePieces(l, row("(ab", "cd", "e)")) || e != 0 {
		t.Errorf("%v, %d", l, e)
	}
	if n, e := Count(5, 2); n != 3 || e != 0 {
		t.Errorf("%d, %d", n, e)
	}
	if b, at, e := Join(l...); string(b) != "abcde" || at != 0 || e != 0 {
		t.Errorf("%q, %d, %d", b, at, e)
	}
	m, left, at, e := Runs(append(l, piece("(x"))...)
	if len(m) != 1 || string(m[0]) != "abcde" || left != 1 || at != 0 || e != 0 {
		t.Errorf("%q, %d, %d, %d", m, left, at, e)
	}
}

// P15.1

// cutRefused holds that Cut and Count tell the same error, and nothing else.
func cutRefused(t *testing.T, data []byte, n int, want api.Errno) {
	t.Helper()
	if l, e := cut(t, data, n); len(l) != 0 || e != want {
		t.Errorf("Cut of %d bytes by %d = %d pieces, %d, want %d", len(data), n, len(l), e, want)
	}
	countRefused(t, len(data), n, want)
}

func countRefused(t *testing.T, size, n int, want api.Errno) {
	t.Helper()
	if c, e := count(t, size, n); c != 0 || e != want {
		t.Errorf("Count(%d, %d) = %d, %d, want %d", size, n, c, e, want)
	}
}

func TestCutRefused(t *testing.T) {
	for _, n := range wrongNs() {
		for _, data := range [][]byte{nil, {}, plain(1), plain(65535), plain(65536), plain(65537), plain(1 << 20)} {
			cutRefused(t, data, n, 1)
		}
	}
	for _, n := range goodNs() {
		cutRefused(t, nil, n, 1)
		cutRefused(t, []byte{}, n, 1)
		cutRefused(t, plain(5)[:0], n, 1)
		for _, size := range []int{65537, 65538, 1 << 17, 1<<20 + 1} {
			cutRefused(t, plain(size), n, 2)
		}
	}
}

func TestCountRefused(t *testing.T) {
	for _, n := range wrongNs() {
		for _, size := range []int{math.MinInt, -1, 0, 1, 2, 65535, 65536, 65537, 1 << 32, math.MaxInt} {
			countRefused(t, size, n, 1)
		}
	}
	for _, n := range goodNs() {
		for _, size := range []int{math.MinInt, math.MinInt + 1, -1 << 32, -65536, -2, -1, 0} {
			countRefused(t, size, n, 1)
		}
		for _, size := range []int{65537, 65538, 1 << 32, 1<<32 + 1, math.MaxInt - 65536, math.MaxInt - 1, math.MaxInt} {
			countRefused(t, size, n, 2)
		}
	}
}

func TestCount(t *testing.T) {
	for _, c := range []struct{ size, n, want int }{
		{1, 1, 1}, {1, 2, 1}, {1, 65535, 1}, {1, 65536, 1},
		{2, 1, 2}, {2, 2, 1}, {3, 2, 2}, {4, 2, 2}, {5, 2, 3}, {9, 10, 1}, {10, 10, 1}, {11, 10, 2},
		{65535, 1, 65535}, {65535, 2, 32768}, {65535, 65534, 2}, {65535, 65535, 1}, {65535, 65536, 1},
		{65536, 1, 65536}, {65536, 2, 32768}, {65536, 3, 21846}, {65536, 65535, 2}, {65536, 65536, 1},
	} {
		if n, e := count(t, c.size, c.n); n != c.want || e != 0 {
			t.Errorf("Count(%d, %d) = %d, %d, want %d", c.size, c.n, n, e, c.want)
		}
	}
}

func TestCut(t *testing.T) {
	for _, c := range []struct {
		data string
		n    int
		want string
	}{
		{"a", 1, "(a)"}, {"a", 2, "(a)"}, {"a", 65535, "(a)"}, {"a", 65536, "(a)"},
		{"ab", 1, "(a|b)"}, {"ab", 2, "(ab)"}, {"ab", 3, "(ab)"},
		{"abc", 1, "(a|b|c)"}, {"abc", 2, "(ab|c)"}, {"abc", 3, "(abc)"}, {"abc", 4, "(abc)"},
		{"abcd", 2, "(ab|cd)"}, {"abcd", 3, "(abc|d)"},
		{"abcdefgh", 3, "(abc|def|gh)"}, {"abcdefghi", 3, "(abc|def|ghi)"}, {"abcdefghij", 3, "(abc|def|ghi|j)"},
		{"\x00\xff\x00", 2, "(\x00\xff|\x00)"},
	} {
		if l, e := cut(t, []byte(c.data), c.n); !samePieces(l, split(c.want)) || e != 0 {
			t.Errorf("Cut(%q, %d) = %v, %d, want %s", c.data, c.n, l, e, c.want)
		}
	}
}

// wellCut holds what Cut makes of a message against the words, one by one.
func wellCut(t *testing.T, data []byte, n int) {
	t.Helper()
	l, e := cut(t, data, n)
	c, countE := count(t, len(data), n)
	if e != 0 || countE != 0 || len(l) != c {
		t.Fatalf("Cut of %d bytes by %d = %d pieces, %d; Count = %d, %d", len(data), n, len(l), e, c, countE)
	}
	for i, p := range l {
		last := i == len(l)-1
		if p.Begin != (i == 0) || p.End != last || len(p.Data) == 0 || len(p.Data) > n || !last && len(p.Data) != n {
			t.Fatalf("Cut of %d bytes by %d: piece %d of %d has %d bytes, %v, %v", len(data), n, i, len(l), len(p.Data), p.Begin, p.End)
		}
	}
	if !bytes.Equal(all(l), data) {
		t.Fatalf("Cut of %d bytes by %d are other bytes", len(data), n)
	}
}

func TestCutAtEverySize(t *testing.T) {
	for size := 1; size <= 70; size++ {
		for n := 1; n <= 75; n++ {
			wellCut(t, plain(size), n)
		}
	}
	for _, n := range []int{1, 2, 7, 100, 1484, 32767, 32768, 32769, 65535, 65536} {
		for _, size := range []int{1, 2, 99, 65534, 65535, 65536} {
			wellCut(t, plain(size), n)
		}
		for _, times := range []int{1, 2, 3, 44, maxMessage / n} {
			for d := -1; d <= 1; d++ {
				if size := times*n + d; size >= 1 && size <= maxMessage {
					wellCut(t, plain(size), n)
				}
			}
		}
	}
}

// P15.2

// joinFails holds an error of Join, and its number.
func joinFails(t *testing.T, l []api.Piece, want int, wantE api.Errno) {
	t.Helper()
	for _, row := range [][]api.Piece{l, bare(l)} {
		if b, at, e := join(t, row); len(b) != 0 || at != want || e != wantE {
			t.Errorf("Join of %d pieces of %v = %d bytes, %d, %d, want %d, %d", len(l), lengths(l), len(b), at, e, want, wantE)
		}
	}
}

func TestJoinOfNone(t *testing.T) {
	if b, at, e := Join(); len(b) != 0 || at != 0 || e != 150 {
		t.Errorf("%q, %d, %d", b, at, e)
	}
	joinFails(t, nil, 0, 150)
	joinFails(t, []api.Piece{}, 0, 150)
	joinFails(t, row("(a)")[:0], 0, 150)
}

func TestJoin(t *testing.T) {
	for text, want := range map[string]string{
		"(a)": "a", "(abc)": "abc", "(a|b)": "ab", "(a|b|c)": "abc", "(ab|cd|e)": "abcde", "(a|bcd|ef|g)": "abcdefg", "(\x00|\x00)": "\x00\x00",
	} {
		if b, at, e := join(t, split(text)); string(b) != want || at != 0 || e != 0 {
			t.Errorf("Join of %s = %q, %d, %d", text, b, at, e)
		}
	}
}

// Faults of pieces: as they are, and with more bytes in all than a message may have.
func TestJoinFaults(t *testing.T) {
	for _, c := range []struct {
		text string
		want int
	}{
		// without data: the first, a middle one, the last, the only one, all
		{"(|b|c)", 0}, {"(a||c)", 1}, {"(a|b||d)", 2}, {"(a|b|)", 2}, {"(a|)", 1}, {"()", 0}, {"(||)", 0}, {"(a||)", 1},
		// the first without Begin
		{"a)", 0}, {"a|b)", 0}, {"a|b|c)", 0},
		// a later one with it
		{"(a|(b)", 1}, {"(a|(b|c)", 1}, {"(a|b|(c)", 2}, {"(a|b|(c|d)", 2}, {"(a|b|(c|(d)", 2},
		// an End in the first place, and in a middle one
		{"(a)|b)", 0}, {"(a)|b|c)", 0}, {"(a|b)|c)", 1}, {"(a|b|c)|d)", 2}, {"(a|b)|c)|d)", 1},
		// no End in the last: the number of all
		{"(a", 1}, {"(a|b", 2}, {"(a|b|c", 3},
		// several faults: the first one
		{"a|(b|c)", 0}, {"a||c)", 0}, {"a|b)|c)", 0}, {"(a)|(b)", 0}, {"(a)||c)", 0}, {"(a||(c)", 1}, {"(a|(b||d)", 1},
		{"(a|b)||d)", 1}, {"(a||c)|d)", 1}, {"(a|(b|c)|d)", 1}, {"(a|b)|(c|d)", 1}, {"(|(b|c)", 0},
		// several of one piece
		{"", 0}, {")", 0}, {"a)|b)", 0}, {"|b)", 0}, {"()|b)", 0}, {")|b)", 0}, {"(a|(b)|c)", 1}, {"(a|(|c)", 1}, {"(a|()|c)", 1}, {"(a|)|c)", 1}, {"(a|(", 1}, {"(a|()", 1},
		// beside a last one without End
		{"a", 0}, {"a|b", 0}, {"(|b", 0}, {"(", 0}, {"(a||c", 1}, {"(a|", 1}, {"(a|(b", 1}, {"(a|b|(c", 2}, {"(a)|b", 0}, {"(a|b)|c", 1}, {"(a|b)|(c", 1},
	} {
		joinFails(t, split(c.text), c.want, 150)
		joinFails(t, blown(split(c.text), 65537), c.want, 150)
		joinFails(t, blown(split(c.text), 32769), c.want, 150)
	}
}

// A fault far behind what is too long is told all the same, and one far ahead of the last.
func TestJoinFaultsInALongRow(t *testing.T) {
	sizes := slices.Repeat([]int{100}, 1000)
	joinFails(t, sized(sizes...), 0, 2)
	joinFails(t, open(sizes...), 1000, 150)
	for _, at := range []int{1, 2, 500, 998, 999} {
		l := sized(sizes...)
		l[at].Data = nil
		joinFails(t, l, at, 150)
		l = sized(sizes...)
		l[at].Begin = true
		joinFails(t, l, at, 150)
		l = sized(sizes...)
		l[at-1].End = true
		joinFails(t, l, at-1, 150)
	}
}

func TestJoinOfTheGreatest(t *testing.T) {
	ones := slices.Repeat([]int{1}, 65536)
	for _, sizes := range [][]int{
		{65536}, {65535}, {1, 65535}, {65535, 1}, {32768, 32768}, {30000, 30000, 5536}, {1, 65534, 1}, slices.Repeat([]int{4096}, 16), ones, ones[1:],
	} {
		l := sized(sizes...)
		if b, at, e := join(t, l); !bytes.Equal(b, all(l)) || at != 0 || e != 0 {
			t.Errorf("Join of %d pieces = %d bytes, %d, %d", len(l), len(b), at, e)
		}
	}
	for _, sizes := range [][]int{
		{65537}, {65536, 1}, {1, 65536}, {32768, 32769}, {65537, 65537}, {30000, 30000, 5537}, {1, 65535, 1}, append(slices.Repeat([]int{4096}, 16), 1), append(slices.Clone(ones), 1), {1 << 20}, slices.Repeat([]int{65536}, 10),
	} {
		joinFails(t, sized(sizes...), 0, 2)
	}
}

// P15.3

// runsFail holds an error of Runs, and its number.
func runsFail(t *testing.T, l []api.Piece, want int, wantE api.Errno) {
	t.Helper()
	for _, row := range [][]api.Piece{l, bare(l)} {
		if m, left, at, e := runs(t, row); len(m) != 0 || left != 0 || at != want || e != wantE {
			t.Errorf("Runs of %d pieces of %v = %d messages, %d, %d, %d, want %d, %d", len(l), lengths(l), len(m), left, at, e, want, wantE)
		}
	}
}

// runsTell holds the messages of a row, and how many pieces are left.
func runsTell(t *testing.T, l []api.Piece, wantLeft int, want ...[]byte) {
	t.Helper()
	if m, left, at, e := runs(t, l); !sameMessages(m, want) || left != wantLeft || at != 0 || e != 0 {
		t.Errorf("Runs of %d pieces of %v = %d messages, %d, %d, %d, want %d, %d", len(l), lengths(l), len(m), left, at, e, len(want), wantLeft)
	}
}

func TestRunsOfNone(t *testing.T) {
	if m, left, at, e := Runs(); len(m) != 0 || left != 0 || at != 0 || e != 0 {
		t.Errorf("%q, %d, %d, %d", m, left, at, e)
	}
	runsTell(t, nil, 0)
	runsTell(t, []api.Piece{}, 0)
	runsTell(t, row("(a)")[:0], 0)
}

func TestRuns(t *testing.T) {
	for _, c := range []struct {
		text string
		want string
		left int
	}{
		{"(a)", "a", 0}, {"(a|b)", "ab", 0}, {"(ab|cd|e)", "abcde", 0},
		{"(a)|(b)", "a,b", 0}, {"(a)|(a)|(a)", "a,a,a", 0}, {"(a|b)|(c)|(d|e|f)", "ab,c,def", 0}, {"(a)|(b|c)|(d)|(e|f)", "a,bc,d,ef", 0},
		{"(a", "", 1}, {"(a|b", "", 2}, {"(a|b|c", "", 3},
		{"(a)|(b", "a", 1}, {"(a|b)|(c|d|e", "ab", 3}, {"(a)|(b|c)|(d|e", "a,bc", 2}, {"(a)|(b)|(c)|(d", "a,b,c", 1},
	} {
		var want [][]byte
		for _, text := range strings.FieldsFunc(c.want, func(r rune) bool { return r == ',' }) {
			want = append(want, []byte(text))
		}
		runsTell(t, split(c.text), c.left, want...)
	}
}

// Faults of pieces: as they are, and behind whole messages, of which none is told then.
func TestRunsFaults(t *testing.T) {
	for _, c := range []struct {
		text string
		want int
	}{
		// without data: outside a message, within one, at its end, behind one
		{"", 0}, {"(", 0}, {"()", 0}, {")", 0}, {"(|b)", 0}, {"(a|", 1}, {"(a||c)", 1}, {"(a|b|)", 2}, {"(a)|", 1}, {"(a)|()", 1}, {"(a)|(|b)", 1}, {"(a|b)|()|(c)", 2},
		// with Begin within a message
		{"(a|(b", 1}, {"(a|(b)", 1}, {"(a|b|(c)", 2}, {"(a|(b|c)", 1}, {"(a)|(b|(c)", 2}, {"(a)|(b|c|(d|e)", 3},
		// without it outside
		{"a", 0}, {"a)", 0}, {"a|b)", 0}, {"a|(b)", 0}, {"(a)|b", 1}, {"(a)|b)", 1}, {"(a)|b|(c)", 1}, {"(a|b)|(c)|d)", 3},
		// several: the first one
		{"a|(b|(c)", 0}, {"(a||(c|", 1}, {"(a|(b||d", 1}, {"(a)|b||(d|(e)", 1}, {"(a)||b", 1}, {"(a|(", 1}, {"(a|()|b", 1},
	} {
		l := split(c.text)
		runsFail(t, l, c.want, 150)
		runsFail(t, append(split("(u|v)|(w)|(x|y|z)"), l...), c.want+6, 150)
		runsFail(t, append(sized(65536), l...), c.want+1, 150)
		runsFail(t, blown(l, 20000), c.want, 150)
	}
}

func TestRunsOfTheGreatest(t *testing.T) {
	ones := slices.Repeat([]int{1}, 65536)
	for _, sizes := range [][]int{{65536}, {65535}, {65535, 1}, {1, 65535}, {32768, 32768}, {1, 65534, 1}, slices.Repeat([]int{4096}, 16), ones} {
		l := sized(sizes...)
		runsTell(t, l, 0, all(l))
		runsTell(t, slices.Concat(l, l), 0, all(l), all(l))
		runsTell(t, slices.Concat(l, open(sizes...)), len(l), all(l))
		runsTell(t, slices.Concat(row("(x)"), l, row("(y)", "(z")), 1, []byte("x"), all(l), []byte("y"))
	}
	for _, c := range []struct {
		sizes []int
		want  int
	}{
		{[]int{65537}, 0}, {[]int{65537, 1}, 0}, {[]int{1 << 20}, 0}, {[]int{65537, 65537}, 0},
		{[]int{65536, 1}, 1}, {[]int{1, 65536}, 1}, {[]int{65536, 1, 1}, 1}, {[]int{32768, 32769, 5}, 1},
		{[]int{1, 65535, 1}, 2}, {[]int{30000, 30000, 5537}, 2}, {[]int{30000, 30000, 5536, 1, 1}, 3},
		{append(slices.Repeat([]int{4096}, 16), 1), 16}, {append(slices.Clone(ones), 1), 65536}, {append(slices.Clone(ones), 1, 1, 1), 65536},
	} {
		for _, l := range [][]api.Piece{sized(c.sizes...), open(c.sizes...)} {
			runsFail(t, l, c.want, 2)
			runsFail(t, slices.Concat(row("(x|y)", "(z)"), l), c.want+2, 2)
			runsFail(t, slices.Concat(split("(x|y)|(z)"), l), c.want+3, 2)
			runsFail(t, slices.Concat(sized(65536), l, sized(1)), c.want+1, 2)
		}
	}
}

// The same bytes are too many for one message, and not for two.
func TestRunsCountEachMessageAnew(t *testing.T) {
	runsFail(t, sized(40000, 40000), 1, 2)
	two := slices.Concat(sized(40000), sized(40000))
	runsTell(t, two, 0, all(two[:1]), all(two[1:]))
	runsFail(t, sized(20000, 20000, 20000, 20000), 3, 2)
	two = slices.Concat(sized(20000, 20000), sized(20000, 20000))
	runsTell(t, two, 0, all(two[:2]), all(two[2:]))
	two = slices.Concat(sized(20000, 20000), open(20000, 20000))
	runsTell(t, two, 2, all(two[:2]))
	var many []api.Piece
	var want [][]byte
	for range 30 {
		many = append(many, sized(60000, 5536)...)
		want = append(want, all(sized(60000, 5536)))
	}
	runsTell(t, many, 0, want...)
}

// What is too long and what is no message: whichever piece stands ahead is told; of one piece, that it is none.
func TestRunsTellTheFirstFault(t *testing.T) {
	long := sized(65537)
	for _, bad := range []string{"", "()", "(", "a", "a)", "(a|(b)", "(a|"} {
		l := split(bad)
		at := len(l) - 1
		runsFail(t, slices.Concat(long, l), 0, 2)
		runsFail(t, slices.Concat(sized(65536, 1), l), 1, 2)
		runsFail(t, slices.Concat(sized(65536), long, l), 1, 2)
		runsFail(t, slices.Concat(l, long), at, 150)
		runsFail(t, slices.Concat(l, sized(65536, 1)), at, 150)
		runsFail(t, slices.Concat(sized(65536), l, long), at+1, 150)
	}
	for _, within := range []string{"", ")", "(b", "(b)", "(", "()"} {
		l := row(within)
		runsFail(t, slices.Concat(open(65536), l, sized(5)), 1, 150)
		runsFail(t, slices.Concat(open(65536, 1), l), 1, 2)
		runsFail(t, slices.Concat(open(65535, 1, 1), l), 2, 2)
	}
	both := open(60000, 60000)
	both[1].Begin = true
	runsFail(t, both, 1, 150)
	outside := sized(65537)
	outside[0].Begin = false
	runsFail(t, outside, 0, 150)
	runsFail(t, slices.Concat(sized(3), outside), 1, 150)
}

// What is handed in is the caller's, and so is what is told.

// spoil turns all that bytes reach, what lies behind their length among it.
func spoil(b []byte) {
	for i := range b[:cap(b)] {
		b[:cap(b)][i] ^= 255
	}
}

func TestPiecesAreTheCallers(t *testing.T) {
	for _, n := range []int{1, 2, 3, 5, 7, 10, 11, 65536} {
		room := plain(20)
		was := bytes.Clone(room)
		l, e := Cut(room[:10], n)
		other, otherE := Cut(room[:10], n)
		want, _ := modelCut(was[:10], n)
		if e != 0 || otherE != 0 {
			t.Fatalf("%d, %d", e, otherE)
		}
		for i := range l {
			_ = append(l[i].Data, 1, 2, 3)
			if !samePieces(l, want) || !samePieces(other, want) || !bytes.Equal(room, was) {
				t.Fatalf("by %d: appending to piece %d changes others", n, i)
			}
		}
		for i := range l {
			spoil(l[i].Data)
			l[i].Begin, l[i].End = !l[i].Begin, !l[i].End
			if !samePieces(l[i+1:], want[i+1:]) || !samePieces(other, want) || !bytes.Equal(room, was) {
				t.Fatalf("by %d: changing piece %d changes others", n, i)
			}
		}
		_ = append(l, api.Piece{})
		spoil(room)
		if !samePieces(other, want) {
			t.Fatalf("by %d: pieces are the message's memory", n)
		}
	}
}

// lent is a row of pieces that lie in one array, each with what lies behind it as room.
func lent(texts ...string) ([]api.Piece, []byte) {
	var room []byte
	for _, text := range texts {
		room = append(room, piece(text).Data...)
	}
	room = append(room, "behind all"...)
	var list []api.Piece
	at := 0
	for _, text := range texts {
		p := piece(text)
		n := len(p.Data)
		p.Data = room[at : at+n]
		at += n
		list = append(list, p)
	}
	return list, room
}

func TestBytesOfJoinAreTheCallers(t *testing.T) {
	for _, texts := range [][]string{{"(abc)"}, {"(ab", "cd)"}, {"(a", "b", "c)"}} {
		l, room := lent(texts...)
		was := bytes.Clone(room)
		b, _, e := Join(l...)
		other, _, otherE := Join(l...)
		want := all(l)
		if e != 0 || otherE != 0 || !bytes.Equal(b, want) {
			t.Fatalf("%q, %d, %d", b, e, otherE)
		}
		_ = append(b, "more"...)
		spoil(b)
		if !bytes.Equal(room, was) || !bytes.Equal(other, want) {
			t.Errorf("%v: %q, %q", texts, room, other)
		}
		spoil(room)
		clear(l)
		if !bytes.Equal(other, want) {
			t.Errorf("%v: %q, want %q", texts, other, want)
		}
	}
}

func TestMessagesOfRunsAreTheCallers(t *testing.T) {
	texts := []string{"(abc)", "(d", "e)", "(f)", "(g", "h", "i)", "(j"}
	want := [][]byte{[]byte("abc"), []byte("de"), []byte("f"), []byte("ghi")}
	l, room := lent(texts...)
	was := bytes.Clone(room)
	m, _, _, e := Runs(l...)
	other, _, _, otherE := Runs(l...)
	if e != 0 || otherE != 0 || !sameMessages(m, want) {
		t.Fatalf("%q, %d, %d", m, e, otherE)
	}
	for i := range m {
		_ = append(m[i], "more"...)
		if !sameMessages(m, want) || !sameMessages(other, want) || !bytes.Equal(room, was) {
			t.Fatalf("appending to message %d: %q, %q, %q", i, m, other, room)
		}
	}
	for i := range m {
		spoil(m[i])
		if !sameMessages(m[i+1:], want[i+1:]) || !sameMessages(other, want) || !bytes.Equal(room, was) {
			t.Fatalf("changing message %d: %q, %q, %q", i, m, other, room)
		}
	}
	_ = append(m, nil)
	spoil(room)
	clear(l)
	if !sameMessages(other, want) {
		t.Errorf("%q, want %q", other, want)
	}
}

// A row that is a part of a greater one is not written behind its end.
func TestRowsWithRoomAreNotWritten(t *testing.T) {
	room, _ := lent("(a", "b)", "(c", "d)", "(e)")
	was := reached(room)
	for n := range room {
		join(t, room[:n])
		runs(t, room[:n])
		Join(room[:n]...)
		Runs(room[:n]...)
	}
	if !samePieces(was, reached(room)) {
		t.Error("changed")
	}
}

// P15.4

func TestThereAndBack(t *testing.T) {
	r := rand.New(rand.NewSource(15))
	for range 3000 {
		message := drawn(r, someSize(r))
		n := someN(r, len(message))
		l, e := Cut(message, n)
		if e != 0 {
			t.Fatalf("Cut of %d bytes by %d: %d", len(message), n, e)
		}
		b, at, e := Join(l...)
		if !bytes.Equal(b, message) || at != 0 || e != 0 {
			t.Fatalf("Join of %d bytes cut by %d = %d bytes, %d, %d", len(message), n, len(b), at, e)
		}
	}
	for _, size := range []int{1, 2, 65535, 65536} {
		for _, n := range goodNs() {
			message := drawn(r, size)
			l, _ := cut(t, message, n)
			if b, at, e := join(t, l); !bytes.Equal(b, message) || at != 0 || e != 0 {
				t.Fatalf("Join of %d bytes cut by %d = %d bytes, %d, %d", size, n, len(b), at, e)
			}
		}
	}
}

// P15.5

func TestInARow(t *testing.T) {
	r := rand.New(rand.NewSource(51))
	for range 500 {
		var messages [][]byte
		var l []api.Piece
		for range r.Intn(12) {
			message := drawn(r, someSize(r))
			part, e := Cut(message, someN(r, len(message)))
			if e != 0 {
				t.Fatal(e)
			}
			messages = append(messages, message)
			l = append(l, part...)
		}
		if m, left, at, e := Runs(l...); !sameMessages(m, messages) || left != 0 || at != 0 || e != 0 {
			t.Fatalf("Runs of %d messages = %d, %d, %d, %d", len(messages), len(m), left, at, e)
		}
		if len(l) == 0 || l[0].End {
			continue
		}
		if m, left, at, e := Runs(append(l, l[0])...); !sameMessages(m, messages) || left != 1 || at != 0 || e != 0 {
			t.Fatalf("Runs of %d messages and a piece = %d, %d, %d, %d", len(messages), len(m), left, at, e)
		}
	}
}

// All calls, at many drawn rows and numbers, those that may not be among them.

func TestManyRows(t *testing.T) {
	r := rand.New(rand.NewSource(23))
	for range 20000 {
		l := someRow(r, r.Intn(12), 2+r.Intn(40), 1<<r.Intn(4))
		join(t, l)
		runs(t, l)
	}
	for range 300 { // long ones, that pass the limit
		l := someRow(r, r.Intn(30), 20+r.Intn(100), 1<<(10+r.Intn(7)))
		join(t, l)
		runs(t, l)
	}
	for range 300 { // one message, in which little is amiss
		message := drawn(r, someSize(r))
		l, _ := Cut(message, max(someN(r, len(message)), len(message)/50, 1))
		at := r.Intn(len(l))
		switch r.Intn(6) {
		case 0:
			l[at].Begin = !l[at].Begin
		case 1:
			l[at].End = !l[at].End
		case 2:
			l[at].Data = nil
		case 3:
			l = slices.Delete(l, at, at+1)
		case 4:
			l = slices.Insert(l, at, l[at])
		case 5:
			l[at].Data = slices.Concat(l[at].Data, drawn(r, maxMessage-len(message)+r.Intn(2)))
		}
		join(t, l)
		runs(t, l)
	}
}

func TestManyNumbers(t *testing.T) {
	r := rand.New(rand.NewSource(32))
	near := []int{0, 1, 2, 100, 32768, 65536, 65537, 1 << 31, 1 << 32, math.MinInt, math.MaxInt}
	some := func() int { return near[r.Intn(len(near))] - 5 + r.Intn(11) }
	for range 20000 {
		size, n := some(), some()
		count(t, size, n)
		if size >= 0 && size <= 1000 || size > 65500 && size < 66000 && r.Intn(20) == 0 {
			cut(t, drawn(r, size), n)
		}
	}
}
