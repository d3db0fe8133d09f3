// Package plan has what a plan is made of, once its text is read.
package plan

// MarkLetters has the letters of marks in their order: the one at place i stands
// for the mark 1<<i.
const MarkLetters = "abc"

// Item is an input or a table. Marks are an input's, all behind it a table's.
type Item struct {
	Name    string
	IsTable bool
	Marks   int
	Policy  byte
	Columns []string
	Drops   int
	Rules   []Rule
}

// Rule gives its number where the columns' values meet its tests.
type Rule struct {
	Tests  []Test
	Number int
}

// Kind tells what a test asks of a value.
type Kind int

const (
	Any      Kind = iota
	IsNone        // the value of a table without a rule that is met
	IsClash       // the value of a table with several where one may be
	IsNumber      // Low
	Between       // from Low to High
	Below         // below Low
	Above         // above Low
)

// Test asks what its kind says, turned round as often as Nots tells: the
// plain form keeps every `!`, so a bool would not do.
type Test struct {
	Nots      int
	Kind      Kind
	Low, High int
}
