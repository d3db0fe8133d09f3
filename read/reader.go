package read

import (
	"strings"

	"curtain/plan"
)

const (
	wordIn    = "in"
	wordTable = "table"
	wordNone  = "none"
	wordClash = "clash"

	policyLetters = "UFSNP"

	maxLetters = 8
	maxDigits  = 7
)

// reader goes through a text from its first byte to its last, never back.
type reader struct {
	text string
	at   int
}

// next goes to where the next word, number or sign begins, and tells where.
func (r *reader) next() int {
	for r.isHere(' ') || r.isHere('\n') {
		r.at++
	}
	return r.at
}

func (r *reader) ended() bool {
	return r.next() == len(r.text)
}

func (r *reader) isHere(sign byte) bool {
	return r.within(sign, sign)
}

func (r *reader) within(first, last byte) bool {
	return r.at < len(r.text) && first <= r.text[r.at] && r.text[r.at] <= last
}

// take passes a sign if it comes next.
func (r *reader) take(sign byte) bool {
	r.next()
	return r.takeHere(sign)
}

// takeHere is take where no blank may stand ahead.
func (r *reader) takeHere(sign byte) bool {
	if !r.isHere(sign) {
		return false
	}
	r.at++
	return true
}

func (r *reader) must(sign byte) {
	r.next()
	r.mustHere(sign)
}

// mustHere is must where no blank may stand ahead.
func (r *reader) mustHere(sign byte) {
	if !r.takeHere(sign) {
		panic(GiveUp{r.at})
	}
}

// word answers no letters where none come next.
func (r *reader) word() string {
	start := r.next()
	for r.within('a', 'z') {
		r.at++
	}
	return r.text[start:r.at]
}

// name answers a copy, so that what is made of a text does not keep it.
func (r *reader) name() string {
	start := r.next()
	word := r.word()
	if !isName(word) {
		panic(GiveUp{start})
	}
	return strings.Clone(word)
}

func isName(word string) bool {
	switch word {
	case "", wordIn, wordTable, wordNone, wordClash:
		return false
	}
	return len(word) <= maxLetters
}

// marks reads letters that stand close to each other and to the sign ahead. A
// letter out of order is left lying: it can't stand behind marks either.
func (r *reader) marks() int {
	set := 0
	for i := range len(plan.MarkLetters) {
		if r.takeHere(plan.MarkLetters[i]) {
			set += 1 << i
		}
	}
	if set == 0 {
		panic(GiveUp{r.at})
	}
	return set
}

func (r *reader) policy() byte {
	for i := range len(policyLetters) {
		if r.take(policyLetters[i]) {
			return policyLetters[i]
		}
	}
	panic(GiveUp{r.at})
}

func (r *reader) number() int {
	r.next()
	negative := r.takeHere('-')
	n := r.digits()
	if negative {
		return -n
	}
	return n
}

func (r *reader) digits() int {
	start, n := r.at, 0
	for r.within('0', '9') {
		if r.at-start == maxDigits {
			panic(GiveUp{r.at})
		}
		n = 10*n + int(r.text[r.at]-'0')
		r.at++
	}
	if r.at == start {
		panic(GiveUp{r.at})
	}
	return n
}
