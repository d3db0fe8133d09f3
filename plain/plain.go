// Package plain writes a plan in its plain form.
package plain

import (
	"strconv"
	"strings"

	"curtain/plan"
)

// Write gives each item a line of its own.
func Write(items []plan.Item) string {
	var to strings.Builder
	for _, item := range items {
		if item.IsTable {
			writeTable(&to, item)
		} else {
			writeInput(&to, item)
		}
		to.WriteByte('\n')
	}
	return to.String()
}

func writeInput(to *strings.Builder, item plan.Item) {
	to.WriteString("in ")
	to.WriteString(item.Name)
	writeMarks(to, '/', item.Marks)
	to.WriteByte(';')
}

func writeTable(to *strings.Builder, item plan.Item) {
	to.WriteString("table ")
	to.WriteString(item.Name)
	to.WriteByte(' ')
	to.WriteByte(item.Policy)
	to.WriteByte('(')
	to.WriteString(strings.Join(item.Columns, ","))
	to.WriteByte(')')
	writeMarks(to, '\\', item.Drops)
	to.WriteByte('{')
	for _, rule := range item.Rules {
		writeRule(to, rule)
	}
	to.WriteByte('}')
}

// writeMarks writes the sign too, as it may not stand without a letter.
func writeMarks(to *strings.Builder, sign byte, set int) {
	if set == 0 {
		return
	}
	to.WriteByte(sign)
	for i := range len(plan.MarkLetters) {
		if set&(1<<i) != 0 {
			to.WriteByte(plan.MarkLetters[i])
		}
	}
}

func writeRule(to *strings.Builder, rule plan.Rule) {
	for i, test := range rule.Tests {
		if i > 0 {
			to.WriteByte(',')
		}
		to.WriteString(strings.Repeat("!", test.Nots))
		to.WriteString(bareTest(test))
	}
	to.WriteByte('=')
	to.WriteString(strconv.Itoa(rule.Number))
	to.WriteByte(';')
}

func bareTest(test plan.Test) string {
	low := strconv.Itoa(test.Low)
	switch test.Kind {
	case plan.IsNone:
		return "none"
	case plan.IsClash:
		return "clash"
	case plan.IsNumber:
		return low
	case plan.Between:
		return low + ".." + strconv.Itoa(test.High)
	case plan.Below:
		return "<" + low
	case plan.Above:
		return ">" + low
	}
	return "_"
}
