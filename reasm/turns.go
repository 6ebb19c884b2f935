package reasm

import "slices"

// turns are the streams' numbers, and the whole rows that wait for theirs, those of the same one in the order in which they were whole.
type turns struct {
	numbers []uint16
	waiting map[turn][]row
}

func turnsOf(streams int) turns {
	return turns{numbers: make([]uint16, streams), waiting: map[turn][]row{}}
}

func (t *turns) has(stream uint16) bool { return int(stream) < len(t.numbers) }

func (t *turns) wait(its turn, r row) {
	t.waiting[its] = append(t.waiting[its], r)
}

// leave has a row wait no more.
func (t *turns) leave(its turn, gone row) {
	t.waiting[its] = slices.DeleteFunc(t.waiting[its], func(r row) bool { return r == gone })
	if len(t.waiting[its]) == 0 {
		delete(t.waiting, its)
	}
}

// call tells the row of a stream whose turn it is, if there is one: it waits no more, and the number is one more.
func (t *turns) call(stream uint16) (row, bool) {
	now := turn{stream: stream, ssn: t.numbers[stream]}
	if len(t.waiting[now]) == 0 {
		return row{}, false
	}
	called := t.waiting[now][0]
	t.leave(now, called)
	t.numbers[stream]++
	return called, true
}
