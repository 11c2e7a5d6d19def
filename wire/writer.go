package wire

import "quintain/api"

// writer tells a message in bytes, which are worth nothing once something was
// beyond.
type writer struct {
	bytes  []byte
	beyond bool
}

func (w *writer) message(m api.Msg) {
	w.small(m.Kind, api.MAsk, api.MNo)
	w.eight(m.Step)
	w.event(m.Event)
	w.places(m.Trans)
	w.places(m.States)
	w.places(m.Enter)
	w.places(m.Vars)
	writeList(w, mostSets, m.Sets, w.set)
	writeList(w, mostPasts, m.Pasts, w.past)
}

func (w *writer) event(s string) {
	w.small(len(s), 0, mostEvent)
	if !w.beyond {
		w.bytes = append(w.bytes, s...)
	}
}

func (w *writer) places(l []int) {
	writeList(w, mostList, l, w.place)
}

func (w *writer) place(p int) {
	w.small(p, 0, mostPlace)
}

func (w *writer) set(s api.Set) {
	w.place(s.Var)
	w.small(s.Val.Kind, api.KInt, api.KPoint)
	w.eight(uint64(s.Val.A))
	w.eight(uint64(s.Val.B))
}

func (w *writer) past(p api.Past) {
	w.place(p.State)
	w.places(p.Set)
}

// small writes a number of one byte.
func (w *writer) small(n, least, most int) {
	if n < least || n > most {
		w.beyond = true
	}
	w.bytes = append(w.bytes, byte(n))
}

// eight writes a number of eight bytes, the lowest first.
func (w *writer) eight(n uint64) {
	for i := range 8 {
		w.bytes = append(w.bytes, byte(n>>(8*i)))
	}
}

// writeList writes how many there are, and each.
func writeList[T any](w *writer, most int, l []T, write func(T)) {
	w.small(len(l), 0, most)
	// What is too long may be very long.
	if w.beyond {
		return
	}
	for _, each := range l {
		write(each)
	}
}
