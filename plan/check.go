package plan

import (
	"slices"

	"curtain/api"
)

// Check tells why items that were read are no plan after all. The number is
// that of the item at fault, from 1, or 0 where none is named.
func Check(items []Item) (int, api.Errno) {
	if beyondLimits(items) {
		return 0, api.ErrLimit
	}
	for i, item := range items {
		if errno := checkItem(item, items[:i]); errno != api.OK {
			return i + 1, errno
		}
	}
	return 0, api.OK
}

func beyondLimits(items []Item) bool {
	return len(items) > api.MaxItems || slices.ContainsFunc(items, itemBeyondLimits)
}

func itemBeyondLimits(item Item) bool {
	return len(item.Columns) > api.MaxColumns ||
		len(item.Rules) > api.MaxRules ||
		slices.ContainsFunc(item.Rules, ruleBeyondLimits)
}

func ruleBeyondLimits(rule Rule) bool {
	return numberBeyondLimits(rule.Number) || slices.ContainsFunc(rule.Tests, testBeyondLimits)
}

func testBeyondLimits(test Test) bool {
	return numberBeyondLimits(test.Low) || numberBeyondLimits(test.High)
}

func numberBeyondLimits(n int) bool {
	return n > api.MaxValue || n < -api.MaxValue
}

func checkItem(item Item, ahead []Item) api.Errno {
	if Place(ahead, item.Name) >= 0 {
		return api.ErrThere
	}
	for _, column := range item.Columns {
		if Place(ahead, column) < 0 {
			return api.ErrNone
		}
	}
	for _, rule := range item.Rules {
		if len(rule.Tests) != len(item.Columns) {
			return api.ErrWidth
		}
	}
	return api.OK
}

// Fits tells whether values can be those of the inputs.
func Fits(items []Item, values []int) bool {
	inputs := 0
	for _, item := range items {
		if !item.IsTable {
			inputs++
		}
	}
	return len(values) == inputs && !slices.ContainsFunc(values, numberBeyondLimits)
}

// ReadsInputsAlone tells whether the item at a place is a table none of whose
// columns is one: only then any numbers may be its columns' values.
func ReadsInputsAlone(items []Item, place int) bool {
	item := items[place]
	return item.IsTable && !slices.ContainsFunc(item.Columns, func(column string) bool {
		return items[Place(items, column)].IsTable
	})
}
