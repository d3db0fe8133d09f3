// Package read makes the items of a plan of its text.
package read

import "curtain/plan"

// GiveUp is what Items panics with at a text that is no plan. At is how many
// bytes stand ahead of the first at which the text can't go on.
type GiveUp struct {
	At int
}

// Items reads a whole text. It looks at the grammar alone: a text's faults come
// ahead of bounds and names, so these can be asked only once all is read.
func Items(text string) []plan.Item {
	r := &reader{text: text}
	var items []plan.Item
	for !r.ended() {
		items = append(items, r.item())
	}
	return items
}

func (r *reader) item() plan.Item {
	start := r.next()
	switch r.word() {
	case wordIn:
		return r.input()
	case wordTable:
		return r.table()
	}
	panic(GiveUp{start})
}

func (r *reader) input() plan.Item {
	item := plan.Item{Name: r.name()}
	if r.take('/') {
		item.Marks = r.marks()
	}
	r.must(';')
	return item
}

func (r *reader) table() plan.Item {
	item := plan.Item{Name: r.name(), IsTable: true}
	item.Policy = r.policy()
	item.Columns = r.columns()
	if r.take('\\') {
		item.Drops = r.marks()
	}
	r.must('{')
	for !r.take('}') {
		item.Rules = append(item.Rules, r.rule())
	}
	return item
}

func (r *reader) columns() []string {
	r.must('(')
	names := []string{r.name()}
	for r.take(',') {
		names = append(names, r.name())
	}
	r.must(')')
	return names
}

func (r *reader) rule() plan.Rule {
	rule := plan.Rule{Tests: []plan.Test{r.test()}}
	for r.take(',') {
		rule.Tests = append(rule.Tests, r.test())
	}
	r.must('=')
	rule.Number = r.number()
	r.must(';')
	return rule
}

func (r *reader) test() plan.Test {
	nots := 0
	for r.take('!') {
		nots++
	}
	test := r.bareTest()
	test.Nots = nots
	return test
}

func (r *reader) bareTest() plan.Test {
	switch {
	case r.take('_'):
		return plan.Test{Kind: plan.Any}
	case r.take('<'):
		return plan.Test{Kind: plan.Below, Low: r.number()}
	case r.take('>'):
		return plan.Test{Kind: plan.Above, Low: r.number()}
	case r.within('a', 'z'):
		return r.wordTest()
	}
	return r.numberTest()
}

func (r *reader) wordTest() plan.Test {
	start := r.next()
	switch r.word() {
	case wordNone:
		return plan.Test{Kind: plan.IsNone}
	case wordClash:
		return plan.Test{Kind: plan.IsClash}
	}
	panic(GiveUp{start})
}

func (r *reader) numberTest() plan.Test {
	low := r.number()
	if !r.take('.') {
		return plan.Test{Kind: plan.IsNumber, Low: low}
	}
	r.mustHere('.')
	return plan.Test{Kind: plan.Between, Low: low, High: r.number()}
}
