package delta

import (
	"maps"
	"slices"

	"gauger/api"
	"gauger/plan"
	"gauger/wide"
)

// groups is what is added to each group of a view, by its key.
type groups map[string]api.Total

// come adds a row's total to its group; what is no row of the view's table has none.
func (g groups) come(p api.Plan, view int, row []api.Value) {
	if key := plan.Group(p, view, row); key != "" {
		g.add(key, total(p.Views[view], row))
	}
}

// leave takes a row's total away from its group; what is no row of the view's table has none.
func (g groups) leave(p api.Plan, view int, row []api.Value) {
	if key := plan.Group(p, view, row); key != "" {
		g.add(key, Turn(total(p.Views[view], row)))
	}
}

// add has so much more be added to a group.
func (g groups) add(key string, t api.Total) {
	if had, ok := g[key]; ok {
		t = plan.Add(had, t)
	}
	g[key] = t
}

// list is the groups to which something is added, by rising keys.
func (g groups) list() []api.Group {
	var list []api.Group
	for _, key := range slices.Sorted(maps.Keys(g)) {
		if t := g[key]; !plan.IsNothing(t) {
			list = append(list, api.Group{Key: key, Total: t})
		}
	}
	return list
}

// total is what a row of the view's table counts for in its group.
func total(v api.View, row []api.Value) api.Total {
	t := api.Total{Count: wide.Of(1), Sums: make([]api.Wide, len(v.Sums))}
	for i, col := range v.Sums {
		t.Sums[i] = wide.Of(row[col].N)
	}
	return t
}
