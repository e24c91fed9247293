package plan

import (
	"gauger/api"
	"gauger/sign"
)

// Fits is OK, if values are a row of a table; else ErrArg. A plan that can't be has no rows.
func Fits(p api.Plan, table int, row []api.Value) api.Errno {
	if !Good(p) || !has(table, len(p.Tables)) || !fills(p.Tables[table], row) {
		return api.ErrArg
	}
	return api.OK
}

// Entry is a row's entry; ErrArg, if the values are no row of the table.
func Entry(p api.Plan, table int, row []api.Value) (api.Entry, api.Errno) {
	if e := Fits(p, table, row); e != api.OK {
		return api.Entry{}, e
	}
	// What fits can be coded.
	key, _ := sign.Code(row[0])
	val, _ := sign.Row(row[1:]...)
	return api.Entry{Key: key, Val: val}, api.OK
}

// Row is the row whose entry e is, be it a ghost or not; ErrForm, if the table has none such.
func Row(p api.Plan, table int, e api.Entry) ([]api.Value, api.Errno) {
	key, f := sign.Read(e.Key)
	if f != api.OK {
		return nil, f
	}
	rest, f := sign.ReadRow(e.Val)
	if f != api.OK {
		return nil, f
	}
	row := append([]api.Value{key}, rest...)
	if Fits(p, table, row) != api.OK {
		return nil, api.ErrForm
	}
	return row, api.OK
}

// Group is the key of a row's group in a view; nothing, if there is no such view, or the values are no row of its table.
func Group(p api.Plan, view int, row []api.Value) string {
	if !has(view, len(p.Views)) {
		return ""
	}
	v := p.Views[view]
	if Fits(p, v.Table, row) != api.OK {
		return ""
	}
	key, _ := sign.Code(row[v.By])
	return key
}

// fills tells whether there is just one value of each of a table's columns, which can be, and is of its kind.
func fills(t api.Table, row []api.Value) bool {
	if len(row) != len(t.Cols) {
		return false
	}
	for i, v := range row {
		if v.Kind != t.Cols[i] || !sign.Good(v) {
			return false
		}
	}
	return true
}
