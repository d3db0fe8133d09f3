package plan

import (
	"slices"

	"curtain/api"
)

// allMarks is the greatest set of marks.
const allMarks = api.MarkA + api.MarkB + api.MarkC

// IsSetOfMarks tells whether a number is one.
func IsSetOfMarks(n int) bool {
	return 0 <= n && n <= allMarks
}

// Place tells where the item of a name is, or -1.
func Place(items []Item, name string) int {
	return slices.IndexFunc(items, func(item Item) bool { return item.Name == name })
}

// Labels tells each item's label. Columns stand ahead of the table that reads
// them, so their labels are there when its own is made.
func Labels(items []Item) []int {
	labels := make([]int, len(items))
	for i, item := range items {
		label := item.Marks
		for _, column := range item.Columns {
			label |= labels[Place(items, column)]
		}
		labels[i] = label &^ item.Drops
	}
	return labels
}
