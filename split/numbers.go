package split

import "ropewalk/api"

// shared: the buffer may be split so.
func shared(s api.Shares) bool {
	return within(1, s.Buffer, api.MaxWindow) && within(1, s.Paths, api.MaxPaths) && within(api.LeastMTU, s.MTU, api.MostMTU)
}

// part is what one path has of n bytes: a rest makes all parts one greater, so that together they are never less than n.
func part(n, paths int) int { return (n + paths - 1) / paths }

// bounded: each number is one that a path may have outstanding.
func bounded(list []int) bool {
	fine := true
	each(list, func(n int) { fine = fine && within(0, n, api.MaxWindow) })
	return fine
}

// each goes through the numbers, the first one ahead.
func each(list []int, take func(n int)) {
	for _, n := range list {
		take(n)
	}
}

func within(low, n, high int) bool { return low <= n && n <= high }
