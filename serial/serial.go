// Package serial is layer 1: numbers that wrap, and their order.
package serial

// number is both widths: TSNs and SSNs.
type number interface{ uint16 | uint32 }

// Add is a number so many further on.
func Add(a, n uint32) uint32 { return further(a, n) }

// Less tells whether a number is ahead of another one.
func Less(a, b uint32) bool { return ahead(a, b) }

// Diff is how far it is from one to another one.
func Diff(a, b uint32) int { return distance(a, b) }

// Last is the last of several.
func Last(a uint32, more ...uint32) uint32 {
	for _, next := range more {
		if ahead(a, next) {
			a = next
		}
	}
	return a
}

// Within tells whether a number lies from one to another one.
func Within(a, low, high uint32) bool {
	// Differences wrap: low may stand above high.
	return a-low <= high-low
}

// Add16 is a short number so many further on.
func Add16(a, n uint16) uint16 { return further(a, n) }

// Less16 tells whether a short number is ahead of another one.
func Less16(a, b uint16) bool { return ahead(a, b) }

// Diff16 is how far it is from one short number to another one.
func Diff16(a, b uint16) int { return distance(a, b) }

func further[N number](a, n N) N { return a + n }

func ahead[N number](a, b N) bool { return distance(a, b) > 0 }

func distance[N number](a, b N) int {
	// Half of all is no way forth: it counts as the longest way back.
	longest := ^N(0) >> 1
	if forth := b - a; forth <= longest {
		return int(forth)
	}
	return -int(a - b)
}
