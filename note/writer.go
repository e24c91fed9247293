package note

import (
	"strings"

	"gauger/api"
)

// writer builds bytes, one part behind the other.
type writer struct{ strings.Builder }

// number writes a number as so many bytes, the lowest first.
func (w *writer) number(n, size int) {
	for range size {
		w.WriteByte(byte(n))
		n >>= 8
	}
}

// text writes how many bytes there are, in one, and these.
func (w *writer) text(s string) {
	w.number(len(s), 1)
	w.WriteString(s)
}

// record writes what stands between the head and the tail of a record that can be.
func (w *writer) record(r api.Record) {
	w.number(r.Kind, 1)
	w.number(r.Deal, 4)
	w.number(r.Prev, 4)
	w.number(r.Next, 4)
	w.undo(r.Undo)
	w.number(len(r.Pages), 1)
	for _, i := range r.Pages {
		w.number(i.Page, 2)
		w.WriteString(i.Data)
	}
	w.number(len(r.Open), 1)
	for _, o := range r.Open {
		w.number(o.Deal, 4)
		w.number(o.Last, 4)
	}
	w.number(len(r.Dirty), 2)
	for _, d := range r.Dirty {
		w.number(d.Page, 2)
		w.number(d.First, 4)
	}
}

func (w *writer) undo(u api.Undo) {
	w.number(u.Kind, 1)
	w.number(u.Tree, 1)
	w.text(u.Key)
	w.text(u.Val)
}
