package plan

import (
	"strings"

	"gauger/api"
	"gauger/wide"
)

// Total is a total's bytes: those of its Count, then those of each of its Sums.
func Total(t api.Total) string {
	var b strings.Builder
	b.WriteString(wide.Code(t.Count))
	for _, n := range t.Sums {
		b.WriteString(wide.Code(n))
	}
	return b.String()
}

// ReadTotal is the total of bytes, with so many Sums; ErrForm, if the bytes are none's, or no total has so many.
func ReadTotal(s string, sums int) (api.Total, api.Errno) {
	if sums < 0 || sums > api.MaxSums || len(s) != api.WideSize*(1+sums) {
		return api.Total{}, api.ErrForm
	}
	t := Nothing(sums)
	t.Count = numberAt(s, 0)
	for i := range t.Sums {
		t.Sums[i] = numberAt(s, 1+i)
	}
	return t, api.OK
}

// Nothing is a total of zeros with so many Sums, but no more than a view may have.
func Nothing(sums int) api.Total {
	return api.Total{Sums: make([]api.Wide, min(max(sums, 0), api.MaxSums))}
}

// Add is two totals together, with as many Sums as the one has that has fewer.
func Add(a, b api.Total) api.Total {
	t := api.Total{Count: wide.Add(a.Count, b.Count), Sums: make([]api.Wide, min(len(a.Sums), len(b.Sums)))}
	for i := range t.Sums {
		t.Sums[i] = wide.Add(a.Sums[i], b.Sums[i])
	}
	return t
}

// IsNothing tells whether Count and all Sums are 0.
func IsNothing(t api.Total) bool {
	for _, n := range t.Sums {
		if n != wide.Of(0) {
			return false
		}
	}
	return t.Count == wide.Of(0)
}

// numberAt is the number whose code stands in a total's bytes behind so many others.
func numberAt(s string, others int) api.Wide {
	at := others * api.WideSize
	// A code has the size that is read, and any bytes of that size are one.
	n, _ := wide.Read(s[at : at+api.WideSize])
	return n
}
