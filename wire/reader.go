package wire

import (
	"strings"

	"quintain/api"
)

// reader reads bytes from the first one on. Where they aren't what is wanted it
// gives up by panic, which whoever made the reader catches.
type reader struct {
	rest string
}

func (r *reader) giveUp() {
	panic(api.ErrForm)
}

func (r *reader) message() api.Msg {
	var m api.Msg
	m.Kind = r.small(api.MAsk, api.MNo)
	m.Step = r.eight()
	// A piece of what is read would share its memory.
	m.Event = strings.Clone(r.take(r.small(0, mostEvent)))
	m.Trans = r.places()
	m.States = r.places()
	m.Enter = r.places()
	m.Vars = r.places()
	m.Sets = readList(r, mostSets, r.set)
	m.Pasts = readList(r, mostPasts, r.past)
	return m
}

func (r *reader) places() []int {
	return readList(r, mostList, r.place)
}

func (r *reader) place() int {
	return r.small(0, mostPlace)
}

func (r *reader) set() api.Set {
	var s api.Set
	s.Var = r.place()
	s.Val.Kind = r.small(api.KInt, api.KPoint)
	s.Val.A = int64(r.eight())
	s.Val.B = int64(r.eight())
	return s
}

func (r *reader) past() api.Past {
	var p api.Past
	p.State = r.place()
	p.Set = r.places()
	return p
}

func (r *reader) datagram() (kind int, number uint64, load string) {
	kind = r.small(carries, tells)
	number = r.eight()
	load = r.take(len(r.rest))
	if !isDatagram(kind, load) {
		r.giveUp()
	}
	return kind, number, load
}

// small reads a number of one byte.
func (r *reader) small(least, most int) int {
	n := int(r.take(1)[0])
	if n < least || n > most {
		r.giveUp()
	}
	return n
}

// eight reads a number of eight bytes, the lowest first.
func (r *reader) eight() uint64 {
	var n uint64
	for i, b := range []byte(r.take(8)) {
		n |= uint64(b) << (8 * i)
	}
	return n
}

// take reads n bytes.
func (r *reader) take(n int) string {
	if len(r.rest) < n {
		r.giveUp()
	}
	taken := r.rest[:n]
	r.rest = r.rest[n:]
	return taken
}

// end gives up where something stands behind what was read.
func (r *reader) end() {
	if r.rest != "" {
		r.giveUp()
	}
}

// readList reads how many there are, and each.
func readList[T any](r *reader, most int, read func() T) []T {
	var l []T
	for range r.small(0, most) {
		l = append(l, read())
	}
	return l
}
