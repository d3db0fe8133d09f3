// Package curtain: decision tables, and who may know what: see DOC.md.
package curtain

import (
	"curtain/api"
	"curtain/plain"
	"curtain/plan"
	"curtain/read"
)

// Plain writes a plan in its plain form (P4).
func Plain(text string) (form string, number int, errno api.Errno) {
	defer func() {
		if caught := recover(); caught != nil {
			form, number, errno = "", placeOf(caught), api.ErrText
		}
	}()
	if len(text) > api.MaxText {
		return "", 0, api.ErrLimit
	}
	items := read.Items(text)
	number, errno = plan.Check(items)
	if errno != api.OK {
		return "", number, errno
	}
	return plain.Write(items), len(items), api.OK
}

// placeOf lets go on what the reader of texts did not panic with: that is a
// fault of the program, and no answer may hide it.
func placeOf(caught any) int {
	stop, ok := caught.(read.GiveUp)
	if !ok {
		panic(caught)
	}
	return stop.At
}

// Plan is inputs and tables.
type Plan struct{}

// New makes a plan (P5).
func New(text string) (*Plan, api.Errno) { return nil, api.OK }

// Label tells who may know something (P6).
func (p *Plan) Label(name string) (int, api.Errno) { return 0, api.OK }

// Eval tells all tables' values (P7).
func (p *Plan) Eval(values []int) ([]api.Value, api.Errno) { return nil, api.OK }

// Explain tells what a reader may know (P8).
func (p *Plan) Explain(clear int, values []int) (string, api.Errno) { return "", api.OK }

// Gap finds what a table has no rule for (P9).
func (p *Plan) Gap(name string) ([]int, bool, api.Errno) { return nil, false, api.OK }

// Overlap finds what a table has several rules for (P9).
func (p *Plan) Overlap(name string) ([]int, bool, api.Errno) { return nil, false, api.OK }
