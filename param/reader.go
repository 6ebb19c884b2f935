package param

import (
	"bytes"

	"ropewalk/api"
)

// left is the bytes that are still to be read.
type left []byte

func (l left) empty() bool { return len(l) == 0 }

// has tells whether there are so many.
func (l left) has(n int) bool { return n <= len(l) }

// number is the one of two bytes at a place.
func (l left) number(at int) uint16 { return uint16(l[at])<<8 | uint16(l[at+1]) }

// skip leaves out so many, or all, if there are fewer.
func (l *left) skip(n int) { *l = (*l)[min(n, len(*l)):] }

// reader reads parameters, and stays where one begins that is none.
type reader struct {
	left
	count int // of parameters that were read
}

// all is the list up to the end, or up to the first fault, which is thrown from wherever it is found.
func (r *reader) all() (list []api.Param, e api.Errno) {
	defer func() {
		if fault := recover(); fault != nil {
			// Faults alone are thrown: another panic would be a mistake, and is not hidden.
			e = fault.(api.Errno)
		}
	}()
	for !r.empty() {
		list = append(list, r.next())
	}
	return list, api.OK
}

func (r *reader) next() api.Param {
	need(r.count < api.MaxParams, api.ErrMany)
	n := r.length()
	p := api.Param{Type: r.number(0), Body: bytes.Clone(r.left[headBytes:n])}
	// Behind the last one some of the bytes between may be missing.
	r.skip(filled(n))
	r.count++
	return p
}

// length is that of the parameter that begins here.
func (r *reader) length() int {
	need(r.has(headBytes), api.ErrTlv)
	n := int(r.number(lengthAt))
	need(n >= headBytes && r.has(n), api.ErrTlv)
	return n
}

// need throws a fault, unless what must hold does.
func need(holds bool, fault api.Errno) {
	if !holds {
		panic(fault)
	}
}
