// Package eval makes values of a plan and those of its inputs.
package eval

import (
	"slices"

	"curtain/api"
	"curtain/plan"
)

// Result is an item's value, and the places of the rules that made it: none of
// an input.
type Result struct {
	Value api.Value
	Met   []int
}

// Items tells each item's result, in their order. Values must be as many as
// there are inputs.
func Items(items []plan.Item, values []int) []Result {
	results := make([]Result, len(items))
	inputs := 0
	for i, item := range items {
		if item.IsTable {
			results[i] = table(item, columns(item, items, results))
		} else {
			results[i] = Result{Value: number(values[inputs])}
			inputs++
		}
	}
	return results
}

// Tables tells the tables' values alone.
func Tables(items []plan.Item, values []int) []api.Value {
	var tables []api.Value
	for i, result := range Items(items, values) {
		if items[i].IsTable {
			tables = append(tables, result.Value)
		}
	}
	return tables
}

// columns finds results there, as columns stand ahead of the table.
func columns(item plan.Item, items []plan.Item, results []Result) []api.Value {
	values := make([]api.Value, len(item.Columns))
	for i, column := range item.Columns {
		values[i] = results[plan.Place(items, column)].Value
	}
	return values
}

func table(item plan.Item, values []api.Value) Result {
	places := met(item.Rules, values)
	numbers := make([]int, len(places))
	for i, place := range places {
		numbers[i] = item.Rules[place].Number
	}
	return Result{Value: decide(item.Policy, numbers), Met: places}
}

// decide makes a table's value of the numbers of the rules that are met.
func decide(policy byte, numbers []int) api.Value {
	switch policy {
	case 'S':
		return number(sum(numbers))
	case 'N':
		return number(len(numbers))
	}
	if len(numbers) == 0 {
		return api.Value{Kind: api.None}
	}
	if policy == 'P' {
		return number(slices.Max(numbers))
	}
	if policy == 'U' && len(numbers) > 1 {
		return api.Value{Kind: api.Clash}
	}
	return number(numbers[0])
}

func sum(numbers []int) int {
	total := 0
	for _, n := range numbers {
		total += n
	}
	return total
}

func number(n int) api.Value {
	return api.Value{Kind: api.Number, N: n}
}
