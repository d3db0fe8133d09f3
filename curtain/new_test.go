package curtain_test

import (
	"strings"
	"testing"
	"unsafe"

	"curtain/api"
	"curtain/curtain"
)

func mustNew(t *testing.T, text string) *curtain.Plan {
	t.Helper()
	p, errno := curtain.New(text)
	if p == nil || errno != api.OK {
		t.Fatalf("New(%q) = %v, %d, want a plan", text, p, errno)
	}
	return p
}

func wantRefused(t *testing.T, text string, want api.Errno) {
	t.Helper()
	if p, errno := curtain.New(text); p != nil || errno != want {
		t.Errorf("New(%.120q) = %v, %d, want nil, %d", text, p, errno, want)
	}
}

func TestP5Plans(t *testing.T) {
	for _, text := range []string{"", " \n", "in a;", wide, full, example, examplePlain, inputs(api.MaxItems), "in a;" + strings.Repeat("\n", api.MaxText-5)} {
		mustNew(t, text)
	}
}

func TestP5Refused(t *testing.T) {
	for text, want := range map[string]api.Errno{
		"in age":                               api.ErrText,
		"in table;":                            api.ErrText,
		"?":                                    api.ErrText,
		strings.Repeat("?", api.MaxText+1):     api.ErrLimit,
		strings.Repeat(" ", api.MaxText+1):     api.ErrLimit,
		inputs(api.MaxItems + 1):               api.ErrLimit,
		inputs(api.MaxItems+1) + "?":           api.ErrText,
		rule("1000001", "1"):                   api.ErrLimit,
		"in a;table t U(a,a,a,a){}":            api.ErrLimit,
		"in a; in a;":                          api.ErrThere,
		"table t U(x){}":                       api.ErrNone,
		"in x; table t U(x){1,2=3;}":           api.ErrWidth,
		"in a;table a U(x){1,1=1;}":            api.ErrThere,
		"in a;in a;table t U(x){1,1=1000001;}": api.ErrLimit,
	} {
		wantRefused(t, text, want)
	}
}

func TestP5AsPlain(t *testing.T) {
	for _, text := range []string{wide, full, example} {
		changed(text, func(text string) {
			_, _, want := curtain.Plain(text)
			if p, errno := curtain.New(text); errno != want || (p == nil) != (want != api.OK) {
				t.Errorf("New(%q) = %v, %d, want the error %d", text, p, errno, want)
			}
		})
	}
}

func TestP2PlanKeepsNoText(t *testing.T) {
	bytes := []byte(example)
	p := mustNew(t, unsafe.String(&bytes[0], len(bytes)))
	if string(bytes) != example {
		t.Errorf("New changed its text to %q", bytes)
	}
	for i := range bytes {
		bytes[i] = '?'
	}
	wantLabel(t, p, "risk", 1)
	wantExplain(t, p, 1, []int{30, 1}, "age 30\nill 1\nrisk 5 [3]\nfee 100\n")
}

// TestP1NilPlan: New gives nil too, and no call on what it gave panics.
func TestP1NilPlan(t *testing.T) {
	p, _ := curtain.New("?")
	wantNoLabel(t, p, "a")
	wantEval(t, p, nil)
	wantBadArg(t, p, 0, []int{1})
	wantExplain(t, p, 0, nil, "")
	wantNoSeek(t, p, "a", api.ErrNone)
}

func wantLabel(t *testing.T, p *curtain.Plan, name string, want int) {
	t.Helper()
	if label, errno := p.Label(name); label != want || errno != api.OK {
		t.Errorf("Label(%q) = %d, %d, want %d", name, label, errno, want)
	}
}

func wantNoLabel(t *testing.T, p *curtain.Plan, name string) {
	t.Helper()
	if label, errno := p.Label(name); label != 0 || errno != api.ErrNone {
		t.Errorf("Label(%.120q) = %d, %d, want 0, ErrNone", name, label, errno)
	}
}

func TestP6Example(t *testing.T) {
	p := mustNew(t, example)
	wantLabel(t, p, "age", 0)
	wantLabel(t, p, "ill", api.MarkA)
	wantLabel(t, p, "risk", api.MarkA)
	wantLabel(t, p, "fee", 0)
}

func TestP6Labels(t *testing.T) {
	p := mustNew(t, "in o;in a/a;in b/b;in c/c;in ab/ab;in ac/ac;in bc/bc;in abc/abc;")
	for name, want := range map[string]int{"o": 0, "a": 1, "b": 2, "c": 4, "ab": 3, "ac": 5, "bc": 6, "abc": 7} {
		wantLabel(t, p, name, want)
	}
	p = mustNew(t, "in o;in a/a;in bc/bc;"+
		"table one U(o){_=1;}table all S(a,bc,o){}table twice N(a,a){}"+
		"table drops F(all)\\b{}table more P(drops,bc){}table most U(more,all)\\abc{}"+
		"table idle U(a)\\bc{}table again U(most,a){}table off U(o)\\a{}")
	for name, want := range map[string]int{"one": 0, "all": 7, "twice": 1, "drops": 5, "more": 7, "most": 0, "idle": 1, "again": 1, "off": 0} {
		wantLabel(t, p, name, want)
	}
}

func TestP6NoSuchName(t *testing.T) {
	p := mustNew(t, example)
	for _, name := range []string{"", "x", "ag", "ages", "Age", " age", "age ", "in", "table", "U", "a", strings.Repeat("a", 1<<16), "\x00"} {
		wantNoLabel(t, p, name)
	}
	wantNoLabel(t, mustNew(t, ""), "")
	wantNoLabel(t, mustNew(t, ""), "a")
}
