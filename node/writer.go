package node

import (
	"strings"

	"gauger/api"
	"gauger/crc"
)

// writer builds bytes, one part behind the other.
type writer struct{ strings.Builder }

// number writes a number's lowest bytes, so many, the lowest first.
func (w *writer) number(n, size int) {
	for range size {
		w.WriteByte(byte(n))
		n >>= 8
	}
}

// flag writes one byte, 1 or 0.
func (w *writer) flag(is bool) {
	if is {
		w.WriteByte(1)
	} else {
		w.WriteByte(0)
	}
}

// zeros writes bytes 0 till there are so many bytes in all.
func (w *writer) zeros(till int) {
	for w.Len() < till {
		w.WriteByte(0)
	}
}

// page writes a node that fits, and answers all that was written, sealed.
func (w *writer) page(n api.Node) string {
	w.Grow(bodySize)
	w.node(n)
	w.zeros(bodySize)
	return crc.Seal(w.String())
}

func (w *writer) node(n api.Node) {
	w.number(n.Tree, 1)
	w.number(n.Level, 1)
	w.number(n.Stamp, 4)
	w.flag(n.HasHigh)
	if n.HasHigh {
		w.WriteString(n.High)
	} else {
		w.number(0, api.CodeSize)
	}
	w.number(n.Right, 2)
	w.number(len(n.List), 2)
	for _, e := range n.List {
		w.entry(e)
	}
}

func (w *writer) entry(e api.Entry) {
	w.WriteString(e.Key)
	w.flag(e.Ghost)
	w.number(len(e.Val), 1)
	w.WriteString(e.Val)
}
