// Package curtain: decision tables, and who may know what: see DOC.md.
package curtain

import (
	"curtain/api"
	"curtain/eval"
	"curtain/explain"
	"curtain/plain"
	"curtain/plan"
	"curtain/read"
	"curtain/search"
)

// Plain writes a plan in its plain form (P4).
func Plain(text string) (form string, number int, errno api.Errno) {
	defer func() {
		if caught := recover(); caught != nil {
			form = ""
			number, errno = faultOf(caught)
		}
	}()
	items, number, errno := itemsOf(text)
	if errno != api.OK {
		return "", number, errno
	}
	return plain.Write(items), len(items), api.OK
}

// itemsOf panics, as the reader does, at a text that is no plan. With an error
// the number is as Plain tells it.
func itemsOf(text string) ([]plan.Item, int, api.Errno) {
	if len(text) > api.MaxText {
		return nil, 0, api.ErrLimit
	}
	items := read.Items(text)
	number, errno := plan.Check(items)
	return items, number, errno
}

// faultOf lets go on what the reader of texts did not panic with: that is a
// fault of the program, and no answer may hide it.
func faultOf(caught any) (int, api.Errno) {
	stop, ok := caught.(read.GiveUp)
	if !ok {
		panic(caught)
	}
	return stop.At, api.ErrText
}

// Plan is inputs and tables. Nothing in it changes once New has made it, so that
// what its calls answer can't hang on those ahead.
type Plan struct {
	items []plan.Item
}

// New makes a plan (P5).
func New(text string) (made *Plan, errno api.Errno) {
	defer func() {
		if caught := recover(); caught != nil {
			made = nil
			_, errno = faultOf(caught)
		}
	}()
	items, _, errno := itemsOf(text)
	if errno != api.OK {
		return nil, errno
	}
	return &Plan{items}, api.OK
}

// all has no items of the nil that New gives with an error: a call on it
// answers like one on an empty plan, where it would panic else.
func (p *Plan) all() []plan.Item {
	if p == nil {
		return nil
	}
	return p.items
}

// Label tells who may know something (P6).
func (p *Plan) Label(name string) (int, api.Errno) {
	place := plan.Place(p.all(), name)
	if place < 0 {
		return 0, api.ErrNone
	}
	return plan.Labels(p.all())[place], api.OK
}

// Eval tells all tables' values (P7).
func (p *Plan) Eval(values []int) ([]api.Value, api.Errno) {
	if !plan.Fits(p.all(), values) {
		return nil, api.ErrArg
	}
	return eval.Tables(p.all(), values), api.OK
}

// Explain tells what a reader may know (P8).
func (p *Plan) Explain(clear int, values []int) (string, api.Errno) {
	if !plan.IsSetOfMarks(clear) || !plan.Fits(p.all(), values) {
		return "", api.ErrArg
	}
	return explain.Write(p.all(), clear, values), api.OK
}

// Gap finds what a table has no rule for (P9).
func (p *Plan) Gap(name string) ([]int, bool, api.Errno) {
	return p.seek(name, func(met int) bool { return met == 0 })
}

// Overlap finds what a table has several rules for (P9).
func (p *Plan) Overlap(name string) ([]int, bool, api.Errno) {
	return p.seek(name, func(met int) bool { return met > 1 })
}

// seek finds the least values of a table's columns for which so many rules are
// met as is wanted.
func (p *Plan) seek(name string, wanted func(met int) bool) ([]int, bool, api.Errno) {
	place := plan.Place(p.all(), name)
	if place < 0 {
		return nil, false, api.ErrNone
	}
	if !plan.ReadsInputsAlone(p.all(), place) {
		return nil, false, api.ErrKind
	}
	values := search.Least(p.all()[place], wanted)
	return values, values != nil, api.OK
}
