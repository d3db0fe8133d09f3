// Package explain writes what a reader may know of a plan's values.
package explain

import (
	"strconv"
	"strings"

	"curtain/api"
	"curtain/eval"
	"curtain/plan"
)

// Write gives each item a line of its own. Clear is the set of the marks that
// the reader may know.
func Write(items []plan.Item, clear int, values []int) string {
	var to strings.Builder
	labels := plan.Labels(items)
	for i, result := range eval.Items(items, values) {
		to.WriteString(items[i].Name)
		to.WriteByte(' ')
		if labels[i]&^clear == 0 {
			writeKnown(&to, items[i], result)
		} else {
			to.WriteByte('?')
		}
		to.WriteByte('\n')
	}
	return to.String()
}

// writeKnown needs not look at the labels of the columns: the label of a table
// that drops nothing has all their marks, and the reader may know it. Of any
// other the rules would tell what it was made of.
func writeKnown(to *strings.Builder, item plan.Item, result eval.Result) {
	to.WriteString(valueText(result.Value))
	if item.IsTable && item.Drops == 0 {
		to.WriteByte(' ')
		writeRules(to, result.Met)
	}
}

func valueText(value api.Value) string {
	switch value.Kind {
	case api.None:
		return "none"
	case api.Clash:
		return "clash"
	}
	return strconv.Itoa(value.N)
}

// writeRules numbers rules from 1, as readers count them.
func writeRules(to *strings.Builder, places []int) {
	to.WriteByte('[')
	for i, place := range places {
		if i > 0 {
			to.WriteByte(' ')
		}
		to.WriteString(strconv.Itoa(place + 1))
	}
	to.WriteByte(']')
}
