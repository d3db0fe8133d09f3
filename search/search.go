// Package search finds values of a table's columns by how many rules they meet.
package search

import (
	"slices"

	"curtain/api"
	"curtain/eval"
	"curtain/plan"
)

// Least tells the least values of a table's columns, of those for which the
// count of the rules that are met is wanted, or nil. The columns must be inputs.
func Least(table plan.Item, wanted func(met int) bool) []int {
	return leastBehind(table, nil, wanted)
}

// leastBehind looks at lists that start with the values of the first columns. It
// tries them from the least on, so that the first it finds is the answer.
func leastBehind(table plan.Item, first []int, wanted func(met int) bool) []int {
	if len(first) == len(table.Columns) {
		if wanted(eval.CountMet(table.Rules, first)) {
			return first
		}
		return nil
	}
	for _, number := range choices(table, first) {
		longer := slices.Concat(first, []int{number})
		if found := leastBehind(table, longer, wanted); found != nil {
			return found
		}
	}
	return nil
}

// choices tells the numbers to try at the place behind the first columns: one,
// if the same column stands among them.
func choices(table plan.Item, first []int) []int {
	place := len(first)
	column := table.Columns[place]
	if earlier := slices.Index(table.Columns[:place], column); earlier >= 0 {
		return []int{first[earlier]}
	}
	return candidates(table, column)
}

// candidates tells the numbers that may be a column's in the least list, in
// order. All others meet the same tests as the number just below them, so that
// a list with one of them is never the least.
func candidates(table plan.Item, column string) []int {
	numbers := []int{-api.MaxValue}
	for _, rule := range table.Rules {
		for place, test := range rule.Tests {
			if table.Columns[place] == column {
				numbers = append(numbers, turns(test)...)
			}
		}
	}
	numbers = slices.DeleteFunc(numbers, func(n int) bool { return n > api.MaxValue })
	slices.Sort(numbers)
	return slices.Compact(numbers)
}

// turns tells the numbers at which a test may answer something else than of the
// number just below. A `!` moves none of them.
func turns(test plan.Test) []int {
	switch test.Kind {
	case plan.IsNumber:
		return []int{test.Low, test.Low + 1}
	case plan.Between:
		return []int{test.Low, test.High + 1}
	case plan.Below:
		return []int{test.Low}
	case plan.Above:
		return []int{test.Low + 1}
	}
	return nil
}
