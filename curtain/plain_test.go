package curtain_test

import (
	"strings"
	"sync"
	"testing"
	"unsafe"

	"curtain/api"
	"curtain/curtain"
)

// The names and results of the calls are given.
var (
	_ func(string) (string, int, api.Errno)                = curtain.Plain
	_ func(string) (*curtain.Plan, api.Errno)              = curtain.New
	_ func(*curtain.Plan, string) (int, api.Errno)         = (*curtain.Plan).Label
	_ func(*curtain.Plan, []int) ([]api.Value, api.Errno)  = (*curtain.Plan).Eval
	_ func(*curtain.Plan, int, []int) (string, api.Errno)  = (*curtain.Plan).Explain
	_ func(*curtain.Plan, string) ([]int, bool, api.Errno) = (*curtain.Plan).Gap
	_ func(*curtain.Plan, string) ([]int, bool, api.Errno) = (*curtain.Plan).Overlap
)

const (
	example = "in age; in ill/a; table risk U (age, ill) { <18, _ = 1; >17, 0 = 2; >17, !0 = 5; } table fee F (risk) \\a { >2 = 100; none = 0; _ = 50; }"

	examplePlain = "in age;\nin ill/a;\n" +
		"table risk U(age,ill){<18,_=1;>17,0=2;>17,!0=5;}\n" +
		"table fee F(risk)\\a{>2=100;none=0;_=50;}\n"

	// both together have every sign of the grammar, with blanks around most
	wide = " in a ; in b /abc ;\n"
	full = "in a;in b/ac;table t P ( a , b , a ) \\bc { ! ! 1 .. -2 , < 3 , > -4 = -5 ; none , clash , _ = 07 ; } table u N(t){}"
)

func wantPlain(t *testing.T, text, form string, number int, errno api.Errno) {
	t.Helper()
	f, n, e := curtain.Plain(text)
	if f != form || n != number || e != errno {
		t.Errorf("Plain(%.120q) = %q, %d, %d, want %q, %d, %d", text, f, n, e, form, number, errno)
	}
}

func TestP3PlainForm(t *testing.T) {
	for _, c := range []struct {
		text, form string
		items      int
	}{
		{"", "", 0},
		{" \n \n", "", 0},
		{example, examplePlain, 4},
		{full, "in a;\nin b/ac;\ntable t P(a,b,a)\\bc{!!1..-2,<3,>-4=-5;none,clash,_=7;}\ntable u N(t){}\n", 4},
		{"in\na\n/a\n;", "in a/a;\n", 1},
		{"in a/b;in b/c;in c/ab;in d/ac;in e/bc;in f/abc;", "in a/b;\nin b/c;\nin c/ab;\nin d/ac;\nin e/bc;\nin f/abc;\n", 6},
		{"in a;table t U(a)\\a{}", "in a;\ntable t U(a)\\a{}\n", 2},
		{"in a;table t U(a)\\abc{}", "in a;\ntable t U(a)\\abc{}\n", 2},
	} {
		wantPlain(t, c.text, c.form, c.items, api.OK)
		wantPlain(t, c.form, c.form, c.items, api.OK)
	}
}

func TestP3Policies(t *testing.T) {
	for _, policy := range []string{"U", "F", "S", "N", "P"} {
		wantPlain(t, "in a;table t"+policy+"(a){_=1;}", "in a;\ntable t "+policy+"(a){_=1;}\n", 2, api.OK)
	}
}

// rule is a plan with one rule: its test and its number at the end of it.
func rule(test, number string) string {
	return "in a;\ntable t U(a){" + test + "=" + number + ";}\n"
}

func TestP3Numbers(t *testing.T) {
	for _, c := range []struct{ number, form string }{
		{"0", "0"}, {"-0", "0"}, {"0000000", "0"}, {"-0000000", "0"},
		{"7", "7"}, {"007", "7"}, {"-007", "-7"}, {"0000010", "10"}, {"100", "100"},
		{"1000000", "1000000"}, {"-1000000", "-1000000"},
	} {
		wantPlain(t, rule("_", c.number), rule("_", c.form), 2, api.OK)
		for _, around := range [][2]string{{"", ""}, {"<", ""}, {">", ""}, {"!", ""}, {"1..", ""}, {"", "..1"}} {
			wantPlain(t, rule(around[0]+c.number+around[1], "1"), rule(around[0]+c.form+around[1], "1"), 2, api.OK)
		}
	}
}

func TestP3AllElseAsItStands(t *testing.T) {
	for _, test := range []string{"_", "none", "clash", "!_", "!!none", "!!!clash", "5..3", "-1..-1", "!<0", "!!>0", strings.Repeat("!", 900) + "_"} {
		wantPlain(t, rule(test, "1"), rule(test, "1"), 2, api.OK)
	}
	wantPlain(t, "in b;in a;table t U(b,a,b){}", "in b;\nin a;\ntable t U(b,a,b){}\n", 3, api.OK)
}

func TestP4Names(t *testing.T) {
	for _, name := range []string{"a", "z", "eightlet", "i", "inn", "tabl", "tables", "non", "nonee", "clas", "clashs"} {
		wantPlain(t, "in "+name+";", "in "+name+";\n", 1, api.OK)
		wantPlain(t, "in "+name, "", 3+len(name), api.ErrText)
	}
	for _, name := range []string{"in", "table", "none", "clash", "ninechars", strings.Repeat("a", 90), "A", "1", "_", "-", "\t", "é"} {
		wantPlain(t, "in "+name+";", "", 3, api.ErrText)
		wantPlain(t, "in "+name, "", 3, api.ErrText)
		wantPlain(t, "table "+name+" U(a){}", "", 6, api.ErrText)
		wantPlain(t, "table t U("+name+"){}", "", 10, api.ErrText)
		wantPlain(t, "table t U(a,"+name+"){}", "", 12, api.ErrText)
	}
}

// TestP4Place has the place of the fault as the length of what stands ahead.
func TestP4Place(t *testing.T) {
	const table = "in a;table t U(a)"
	for _, c := range []struct{ ahead, rest string }{
		{"", "x"}, {" \n", "i"}, {"", "tabl"}, {"", "tables t"}, {"", "ina;"}, {"", "IN a;"}, {"", "/a"}, {"", "\t"}, {"", "\r\n"}, {"", "\x00"}, {"", "\xc3\xa9"},
		{"in", ""}, {"in", ";"}, {"in", "1;"}, {"in ", ""}, {"in \n", ""}, {"in a", ""}, {"in a ", ""}, {"in a", "1;"}, {"in a ", "b;"}, {"in a", ",b;"}, {"in a", "\\a;"}, {"in a", "\t;"}, {"in a;", ";"}, {"in a; ", "b;"},
		{"in a/", ""}, {"in a/", " a;"}, {"in a/", "\na;"}, {"in a/", "d;"}, {"in a/", ";"}, {"in a/", "A;"}, {"in a/a", ""}, {"in a/b", "a;"}, {"in a/c", "b;"}, {"in a/a", "a;"}, {"in a/ac", "b;"}, {"in a/ab", "d"}, {"in a/abc", "c"}, {"in a/a ", "b;"}, {"in a/a", "/b;"},
		{"table", ""}, {"table", "U"}, {"table t", ""}, {"table t", "(a){}"}, {"table t ", "x(a){}"}, {"table t ", "u(a){}"}, {"table t ", "A(a){}"}, {"table t U", ""}, {"table t U", "F(a){}"}, {"table t U", "{}"}, {"table t U ", "x(a){}"},
		{"table t U(", ""}, {"table t U(", ")"}, {"table t U(", ",a)"}, {"table t U(a", ""}, {"table t U(a,", ""}, {"table t U(a,", ")"}, {"table t U(a ", "b)"}, {"table t U(a", ";b)"}, {"table t U(a", "{"},
		{table, ""}, {table, "/a{}"}, {table, ";"}, {table + "\\", ""}, {table + "\\", "/a{}"}, {table + "\\", " a{}"}, {table + "\\", "{}"}, {table + "\\", "d{}"}, {table + "\\b", "a{}"}, {table + "\\a ", "b{}"}, {table + "\\a", "\\b{}"},
		{table + "{", ""}, {table + "{", ";}"}, {table + "{", "=1;}"}, {table + "{", ",_=1;}"}, {table + "{}", "}"}, {table + "{}", ";"}, {table + "{_=1;", ""}, {table + "{_=1;", ";}"}, {table + "{_=1;} ", "x"},
		{table + "{", "non"}, {table + "{", "nones=1;}"}, {table + "{", "a=1;}"}, {table + "{", "in=1;}"}, {table + "{", "None=1;}"}, {table + "{none", ""}, {table + "{none ", "none=1;}"}, {table + "{!", "a"}, {table + "{!", ""}, {table + "{!", "=1;}"}, {table + "{_", "!=1;}"}, {table + "{_", "_=1;}"},
		{table + "{_", ""}, {table + "{_", ";}"}, {table + "{_", "}"}, {table + "{_,", ""}, {table + "{_,", "=1;}"}, {table + "{_=", ""}, {table + "{_=", "=1;}"}, {table + "{_=", "_;}"}, {table + "{_=", "none;}"}, {table + "{_=", ";}"}, {table + "{_=-", ""}, {table + "{_=-", ";}"}, {table + "{_=-", " 1;}"}, {table + "{_=1", ""}, {table + "{_=1", "}"}, {table + "{_=1", "..2;}"}, {table + "{_=1 ", "2;}"}, {table + "{_=1", "-2;}"},
		{table + "{<", ""}, {table + "{<", "=1;}"}, {table + "{<", "<1=1;}"}, {table + "{>", "none=1;}"}, {table + "{>", "!1=1;}"}, {table + "{<1", "..2=1;}"}, {table + "{-", ""}, {table + "{-", "-1=1;}"}, {table + "{-", "\n1=1;}"}, {table + "{", "+1=1;}"},
		{table + "{1.", ""}, {table + "{1.", " .2=1;}"}, {table + "{1.", "2=1;}"}, {table + "{1 .", "=1;}"}, {table + "{1..", ""}, {table + "{1..", ".2=1;}"}, {table + "{1..", "=1;}"}, {table + "{1..", "none=1;}"}, {table + "{1..2", "..3=1;}"}, {table + "{", "..2=1;}"}, {table + "{1", "a=1;}"}, {table + "{1 ", "2=1;}"},
		{table + "{1234567", "8=1;}"}, {table + "{-1234567", "8=1;}"}, {table + "{0000000", "0"}, {table + "{_=1234567", "89;}"}, {table + "{1..1234567", "8=1;}"},
	} {
		wantPlain(t, c.ahead+c.rest, "", len(c.ahead), api.ErrText)
	}
}

// inputs is so many inputs, each of a name of its own.
func inputs(count int) string {
	text := ""
	for i := range count {
		text += "in " + string(rune('a'+i)) + ";\n"
	}
	return text
}

func TestP4Limits(t *testing.T) {
	wantPlain(t, inputs(api.MaxItems), inputs(api.MaxItems), api.MaxItems, api.OK)
	wantPlain(t, "in a;"+strings.Repeat("\n", api.MaxText-5), "in a;\n", 1, api.OK)
	rules := func(count int) string { return "in a;\ntable t U(a){" + strings.Repeat("_=1;", count) + "}\n" }
	wantPlain(t, rules(api.MaxRules), rules(api.MaxRules), 2, api.OK)
	for _, text := range []string{
		"in a;" + strings.Repeat("\n", api.MaxText-4),
		strings.Repeat("x", api.MaxText+1),
		strings.Repeat("!", 1<<20),
		inputs(api.MaxItems + 1),
		"in a;table t U(a,a,a,a){}",
		rules(api.MaxRules + 1),
		rule("1000001", "1"), rule("-1000001", "1"), rule("_", "1000001"), rule("_", "-1000001"),
		rule("<9999999", "1"), rule(">-9999999", "1"), rule("!1000001", "1"), rule("1..1000001", "1"), rule("-1000001..1", "1"),
	} {
		wantPlain(t, text, "", 0, api.ErrLimit)
	}
}

func TestP4Items(t *testing.T) {
	for _, c := range []struct {
		text  string
		item  int
		errno api.Errno
	}{
		{"in a;in a;", 2, api.ErrThere},
		{"in a;in b;table a U(b){}", 3, api.ErrThere},
		{"in a;table t U(a){}in t/a;", 3, api.ErrThere},
		{"table t U(x){}", 1, api.ErrNone},
		{"table t U(t){}", 1, api.ErrNone},
		{"in a;table t U(a,t){}", 2, api.ErrNone},
		{"in a;table t U(a,a,b){}in b;", 2, api.ErrNone},
		{"in a;table t U(a){1,2=3;}", 2, api.ErrWidth},
		{"in a;table t U(a,a){1=3;}", 2, api.ErrWidth},
		{"in a;table t U(a){_=1;_=1;_,_=1;}", 2, api.ErrWidth},
		{"in a;table t U(a){1,2,3,4,5=3;}", 2, api.ErrWidth},
	} {
		wantPlain(t, c.text, "", c.item, c.errno)
	}
}

// TestP1FirstNamed has texts with several faults.
func TestP1FirstNamed(t *testing.T) {
	wantPlain(t, strings.Repeat("?", api.MaxText+1), "", 0, api.ErrLimit)
	wantPlain(t, inputs(api.MaxItems+1)+"?", "", 6*(api.MaxItems+1), api.ErrText)
	wantPlain(t, "table t U(a,a,a,a){1000001=1;", "", 29, api.ErrText)
	wantPlain(t, "in a;in a;table t U(x){1,1=1000001;}", "", 0, api.ErrLimit)
	wantPlain(t, "in a;table a U(x){1,1=1;}", "", 2, api.ErrThere)
	wantPlain(t, "in a;table t U(x){1,1=1;}", "", 2, api.ErrNone)
	wantPlain(t, "in a;table t U(a){1,1=1;}table u U(x){}in a;", "", 2, api.ErrWidth)
	wantPlain(t, "in a;table t U(x){}in a;", "", 2, api.ErrNone)
}

// changed hands on each start of a text, and the text with one byte taken out,
// put in or put in place of another.
func changed(text string, use func(string)) {
	const bytes = "abcxU019-.,;=<>!_(){}/\\ \n\t?\x00\xff"
	for at := range len(text) + 1 {
		use(text[:at])
		for i := range len(bytes) {
			use(text[:at] + bytes[i:i+1] + text[at:])
			if at < len(text) {
				use(text[:at] + bytes[i:i+1] + text[at+1:])
			}
		}
		if at < len(text) {
			use(text[:at] + text[at+1:])
		}
	}
}

func TestP1EveryTextIsAnswered(t *testing.T) {
	for _, text := range []string{wide, full, example} {
		changed(text, func(text string) {
			form, number, errno := curtain.Plain(text)
			switch errno {
			case api.OK:
				wantPlain(t, form, form, number, api.OK)
				return
			case api.ErrText:
				checkPlace(t, text, number)
			case api.ErrLimit:
				if number != 0 {
					t.Errorf("Plain(%q): ErrLimit with %d", text, number)
				}
			case api.ErrThere, api.ErrNone, api.ErrWidth:
				if number < 1 || number > api.MaxItems {
					t.Errorf("Plain(%q): item %d", text, number)
				}
			default:
				t.Errorf("Plain(%q): error %d", text, errno)
			}
			if form != "" {
				t.Errorf("Plain(%q): error %d with %q", text, errno, form)
			}
		})
	}
}

// endings has for each place at which a plan can break off one that ends it.
func endings() []string {
	return []string{"", " a;", ";", "a;", " t U(a){}", " U(a){}", "(a){}", "a){}", "){}", "{}", "a{}", "}", "_=1;}", "1=1;}", ".1=1;}", "=1;}", "1;}", ";}"}
}

func canGoOn(text string) bool {
	for _, ending := range endings() {
		if _, _, errno := curtain.Plain(text + ending); errno != api.ErrText {
			return true
		}
	}
	return false
}

// checkPlace holds that the text can go on behind the bytes ahead of the fault,
// and no more once what lies there is added.
func checkPlace(t *testing.T, text string, at int) {
	t.Helper()
	if at < 0 || at > len(text) {
		t.Errorf("Plain(%q): ErrText at %d", text, at)
		return
	}
	if !canGoOn(text[:at]) {
		t.Errorf("Plain(%q): ErrText at %d, but %q can't go on", text, at, text[:at])
	}
	if at == len(text) {
		return
	}
	end := at + 1
	for 'a' <= text[at] && text[at] <= 'z' && end < len(text) && 'a' <= text[end] && text[end] <= 'z' {
		end++
	}
	for _, ending := range endings() {
		if ending != "" && 'a' <= ending[0] && ending[0] <= 'z' {
			continue
		}
		if _, _, errno := curtain.Plain(text[:end] + ending); errno != api.ErrText {
			t.Errorf("Plain(%q): ErrText at %d, but %q can go on", text, at, text[:end])
		}
	}
}

func TestP2AnswerIsNewMemory(t *testing.T) {
	for _, text := range []string{examplePlain, "in a;\n"} {
		bytes := []byte(text)
		form, _, _ := curtain.Plain(unsafe.String(&bytes[0], len(bytes)))
		if string(bytes) != text {
			t.Errorf("Plain(%q) changed its text to %q", text, bytes)
		}
		for i := range bytes {
			bytes[i] = '?'
		}
		if form != text {
			t.Errorf("Plain(%q): the answer became %q with the text", text, form)
		}
	}
}

// atOnce does the same again and again in several goroutines.
func atOnce(do func()) {
	var all sync.WaitGroup
	for range 8 {
		all.Go(func() {
			for range 50 {
				do()
			}
		})
	}
	all.Wait()
}

func TestP2AnswerHangsOnTextAlone(t *testing.T) {
	atOnce(func() {
		wantPlain(t, example, examplePlain, 4, api.OK)
		wantPlain(t, "in age", "", 6, api.ErrText)
		wantPlain(t, "in a; in a;", "", 2, api.ErrThere)
		wantPlain(t, "", "", 0, api.OK)
	})
}

func TestExamples(t *testing.T) {
	wantPlain(t, "in age", "", 6, api.ErrText)
	wantPlain(t, "in table;", "", 3, api.ErrText)
	wantPlain(t, "in a; in a;", "", 2, api.ErrThere)
	wantPlain(t, "table t U(x){}", "", 1, api.ErrNone)
	wantPlain(t, "in x; table t U(x){1,2=3;}", "", 2, api.ErrWidth)
	wantPlain(t, "in x; table t U(x){1.2=3;}", "", 21, api.ErrText)
}
