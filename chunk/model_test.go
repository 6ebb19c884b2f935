package chunk

import (
	"bytes"
	"encoding/binary"
	"slices"
	"strings"

	"ropewalk/api"
	"ropewalk/param"
)

// The chapter's table, in its words, and what follows from it: what Check, Encode and Decode are held against.

// names are all fields but Kind and Flags.
var names = []string{"TSN", "Stream", "SSN", "Proto", "Tag", "Window", "Out", "In", "Gaps", "NR", "Dups", "Body", "Params"}

// known are the table's kinds.
var known = []api.ChunkKind{0, 1, 2, 3, 4, 5, 6, 7, 8, 9, 10, 11, 14, 16}

// valueOf is what a kind's value is: fields, counts of lists (#) and bytes 0 (00).
func valueOf(k api.ChunkKind) []string {
	switch k {
	case 0:
		return strings.Fields("TSN Stream SSN Proto Body")
	case 1, 2:
		return strings.Fields("Tag Window Out In TSN Params")
	case 3:
		return strings.Fields("TSN Window #Gaps #Dups Gaps Dups")
	case 4, 5, 6, 9:
		return strings.Fields("Params")
	case 7:
		return strings.Fields("TSN")
	case 8, 11, 14:
		return nil
	case 16:
		return strings.Fields("TSN Window #Gaps #NR #Dups 00 Gaps NR Dups")
	}
	return strings.Fields("Body")
}

func hasField(k api.ChunkKind, name string) bool { return slices.Contains(valueOf(k), name) }

func flagsOf(k api.ChunkKind) uint8 {
	switch {
	case k == 0:
		return 7
	case k == 6 || k == 14:
		return 1
	case slices.Contains(known, k):
		return 0
	}
	return 255
}

// four and two are the numbers of a chunk by their names; of another name they are nil.
func four(c *api.Chunk, name string) *uint32 {
	switch name {
	case "TSN":
		return &c.TSN
	case "Proto":
		return &c.Proto
	case "Tag":
		return &c.Tag
	case "Window":
		return &c.Window
	}
	return nil
}

func two(c *api.Chunk, name string) *uint16 {
	switch name {
	case "Stream":
		return &c.Stream
	case "SSN":
		return &c.SSN
	case "Out":
		return &c.Out
	case "In":
		return &c.In
	}
	return nil
}

// count is how many a list has.
func count(c *api.Chunk, name string) int {
	switch name {
	case "Gaps":
		return len(c.Gaps)
	case "NR":
		return len(c.NR)
	case "Dups":
		return len(c.Dups)
	case "Body":
		return len(c.Body)
	case "Params":
		return len(c.Params)
	}
	return 0
}

// isZero tells of a field whether there is nothing in it.
func isZero(c api.Chunk, name string) bool {
	if x := four(&c, name); x != nil {
		return *x == 0
	}
	if x := two(&c, name); x != nil {
		return *x == 0
	}
	return count(&c, name) == 0
}

// put puts something into a field that tells it from all others.
func put(c *api.Chunk, name string) {
	at := slices.Index(names, name) + 1
	if x := four(c, name); x != nil {
		*x = 0x01000000*uint32(at) + 0x00F0E0D0 + uint32(at)
	} else if x := two(c, name); x != nil {
		*x = 0x0100*uint16(at) + 0xE0 + uint16(at)
	}
	switch name {
	case "Gaps":
		c.Gaps = []api.Gap{{Start: 258, End: 772}, {Start: 1286, End: 1800}}
	case "NR":
		c.NR = []api.Gap{{Start: 2314, End: 2828}}
	case "Dups":
		c.Dups = []uint32{0x11121314, 0x15161718, 0x191A1B1C}
	case "Body":
		c.Body = []byte{91, 92, 93, 94, 95}
	case "Params":
		c.Params = []api.Param{{Type: 1, Body: []byte{81, 82, 83}}}
	}
}

// whole is a chunk of a kind with all its fields and flags.
func whole(k api.ChunkKind) api.Chunk {
	c := api.Chunk{Kind: k, Flags: flagsOf(k)}
	for _, name := range names {
		if hasField(k, name) {
			put(&c, name)
		}
	}
	return c
}

func gapBytes(b []byte, l []api.Gap) []byte {
	for _, g := range l {
		b = binary.BigEndian.AppendUint16(b, g.Start)
		b = binary.BigEndian.AppendUint16(b, g.End)
	}
	return b
}

// valueBytesOf is a chunk's value.
func valueBytesOf(c api.Chunk) []byte {
	var b []byte
	for _, item := range valueOf(c.Kind) {
		if x := four(&c, item); x != nil {
			b = binary.BigEndian.AppendUint32(b, *x)
		}
		if x := two(&c, item); x != nil {
			b = binary.BigEndian.AppendUint16(b, *x)
		}
		if list, is := strings.CutPrefix(item, "#"); is {
			b = binary.BigEndian.AppendUint16(b, uint16(count(&c, list)))
		}
		switch item {
		case "00":
			b = append(b, 0, 0)
		case "Gaps":
			b = gapBytes(b, c.Gaps)
		case "NR":
			b = gapBytes(b, c.NR)
		case "Dups":
			for _, x := range c.Dups {
				b = binary.BigEndian.AppendUint32(b, x)
			}
		case "Body":
			b = append(b, c.Body...)
		case "Params":
			list, _ := param.Encode(c.Params...)
			b = append(b, list...)
		}
	}
	return b
}

// headed is a value with a head, and so many of the bytes behind it.
func headed(k api.ChunkKind, flags uint8, value []byte, behind ...byte) []byte {
	b := binary.BigEndian.AppendUint16([]byte{byte(k), flags}, uint16(4+len(value)))
	return append(append(b, value...), behind...)
}

// bytesOf is the bytes of chunks that may be.
func bytesOf(l ...api.Chunk) []byte {
	var b []byte
	for _, c := range l {
		b = append(b, headed(c.Kind, c.Flags, valueBytesOf(c))...)
		for len(b)%4 != 0 {
			b = append(b, 0)
		}
	}
	return b
}

// whyNot is Check's number.
func whyNot(c api.Chunk) api.Errno {
	for _, name := range names {
		if !hasField(c.Kind, name) && !isZero(c, name) {
			return 63
		}
	}
	if c.Flags&^flagsOf(c.Kind) != 0 {
		return 63
	}
	if c.Kind == 0 && len(c.Body) == 0 {
		return 62
	}
	if (c.Kind == 4 || c.Kind == 5) && (len(c.Params) != 1 || c.Params[0].Type != 1) {
		return 61
	}
	if len(c.Gaps) > 4096 || len(c.NR) > 4096 || len(c.Dups) > 4096 || len(c.Params) > 256 {
		return 3
	}
	for _, p := range c.Params {
		if len(p.Body) > 65531 {
			return 2
		}
	}
	if len(valueBytesOf(c)) > 65531 {
		return 2
	}
	return 0
}

// fixed is how many bytes a kind's value has ahead of lists.
func fixed(k api.ChunkKind) int {
	n := 0
	for _, item := range valueOf(k) {
		switch item {
		case "TSN", "Proto", "Tag", "Window":
			n += 4
		case "Stream", "SSN", "Out", "In", "#Gaps", "#NR", "#Dups", "00":
			n += 2
		}
	}
	return n
}

// chunkOf is the chunk that bytes begin with, how many it has, and why there is none.
func chunkOf(b []byte) (api.Chunk, int, api.Errno) {
	if len(b) < 4 {
		return api.Chunk{}, 0, 60
	}
	n := int(binary.BigEndian.Uint16(b[2:]))
	if n < 4 || n > len(b) {
		return api.Chunk{}, 0, 60
	}
	c, e := filledBy(api.Chunk{Kind: api.ChunkKind(b[0]), Flags: b[1] & flagsOf(api.ChunkKind(b[0]))}, b[4:n])
	if e != 0 {
		return api.Chunk{}, 0, e
	}
	for n%4 != 0 && n < len(b) {
		n++
	}
	return c, n, 0
}

// filledBy is a chunk with the fields that a value says.
func filledBy(c api.Chunk, value []byte) (api.Chunk, api.Errno) {
	if c.Kind == 0 && len(value) == 12 {
		return c, 62
	}
	if len(value) < fixed(c.Kind) {
		return c, 61
	}
	numbers, rest := value[:fixed(c.Kind)], value[fixed(c.Kind):]
	counts := map[string]int{}
	for _, item := range valueOf(c.Kind) {
		if x := four(&c, item); x != nil {
			*x, numbers = binary.BigEndian.Uint32(numbers), numbers[4:]
		}
		if x := two(&c, item); x != nil {
			*x, numbers = binary.BigEndian.Uint16(numbers), numbers[2:]
		}
		if list, is := strings.CutPrefix(item, "#"); is {
			counts[list], numbers = int(binary.BigEndian.Uint16(numbers)), numbers[2:]
		}
	}
	if e := faultOf(c.Kind, counts, rest); e != 0 {
		return c, e
	}
	c.Gaps, rest = gapsOf(rest, counts["Gaps"])
	c.NR, rest = gapsOf(rest, counts["NR"])
	for range counts["Dups"] {
		c.Dups, rest = append(c.Dups, binary.BigEndian.Uint32(rest)), rest[4:]
	}
	if hasField(c.Kind, "Body") {
		c.Body = bytes.Clone(rest)
	}
	if hasField(c.Kind, "Params") {
		c.Params, _, _ = param.Decode(rest)
	}
	return c, 0
}

// faultOf is why what stands behind the numbers is no value's.
func faultOf(k api.ChunkKind, counts map[string]int, rest []byte) api.Errno {
	if counts["Gaps"] > 4096 || counts["NR"] > 4096 || counts["Dups"] > 4096 {
		return 3
	}
	if hasField(k, "Body") {
		return 0
	}
	if hasField(k, "Params") {
		l, _, e := param.Decode(rest)
		if e == 0 && (k == 4 || k == 5) && (len(l) != 1 || l[0].Type != 1) {
			return 61
		}
		return e
	}
	if len(rest) != 4*(counts["Gaps"]+counts["NR"]+counts["Dups"]) {
		return 61
	}
	return 0
}

func gapsOf(b []byte, n int) ([]api.Gap, []byte) {
	var l []api.Gap
	for range n {
		l = append(l, api.Gap{Start: binary.BigEndian.Uint16(b), End: binary.BigEndian.Uint16(b[2:])})
		b = b[4:]
	}
	return l, b
}

// alike holds two chunks against each other by the names of their fields.
func alike(a, b api.Chunk) bool {
	if a.Kind != b.Kind || a.Flags != b.Flags {
		return false
	}
	for _, name := range names {
		if x := four(&a, name); x != nil && *x != *four(&b, name) {
			return false
		}
		if x := two(&a, name); x != nil && *x != *two(&b, name) {
			return false
		}
		if count(&a, name) != count(&b, name) {
			return false
		}
	}
	for i := range a.Params {
		if a.Params[i].Type != b.Params[i].Type || string(a.Params[i].Body) != string(b.Params[i].Body) {
			return false
		}
	}
	return string(a.Body) == string(b.Body) && slices.Equal(a.Gaps, b.Gaps) && slices.Equal(a.NR, b.NR) && slices.Equal(a.Dups, b.Dups)
}

func allAlike(a, b []api.Chunk) bool { return slices.EqualFunc(a, b, alike) }

// copied shares nothing with the chunk.
func copied(c api.Chunk) api.Chunk {
	c.Gaps, c.NR, c.Dups, c.Body = slices.Clone(c.Gaps), slices.Clone(c.NR), slices.Clone(c.Dups), slices.Clone(c.Body)
	c.Params = slices.Clone(c.Params)
	for i := range c.Params {
		c.Params[i].Body = slices.Clone(c.Params[i].Body)
	}
	return c
}
