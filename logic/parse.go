package logic

import (
	"equate/api"
	"equate/term"
)

const (
	mostBytes = 400
	mostAbove = 20
)

// parser goes through a text once. Its terms are in the bank as soon as they were read.
type parser struct {
	bank  *term.Bank
	text  string
	at    int
	above uint // how many brackets and `!` what is read now stands within
}

// refusal is what a parser panics with; whole catches it.
type refusal struct {
	errno api.Errno
	place int
}

func refuse(errno api.Errno, place int) {
	panic(refusal{errno, place})
}

// Parse reads a formula (F1).
func Parse(b *term.Bank, s string) (api.Form, api.Errno, int) {
	if len(s) > mostBytes {
		return api.Form{}, api.ErrLong, 0
	}
	p := parser{bank: b, text: s}
	return p.whole()
}

func (p *parser) whole() (f api.Form, errno api.Errno, place int) {
	defer func() {
		if stop, ok := recover().(refusal); ok {
			f, errno, place = api.Form{}, stop.errno, stop.place
		}
	}()
	p.skipBlanks()
	f = p.form()
	if p.at < len(p.text) {
		refuse(api.ErrForm, p.at)
	}
	return f, api.OK, 0
}

func (p *parser) form() api.Form {
	f := p.or()
	if p.next() != '-' {
		return f
	}
	p.at++ // no blank may stand between the two bytes of the sign
	p.must('>')
	return api.Form{Op: api.Implies, Kids: []api.Form{f, p.form()}}
}

func (p *parser) or() api.Form { return p.row(api.Or, '|', p.and) }

func (p *parser) and() api.Form { return p.row(api.And, '&', p.not) }

// row reads parts with a sign between, and puts the first two together first.
func (p *parser) row(op int, sign byte, part func() api.Form) api.Form {
	f := part()
	for p.next() == sign {
		p.must(sign)
		f = api.Form{Op: op, Kids: []api.Form{f, part()}}
	}
	return f
}

func (p *parser) not() api.Form {
	switch p.next() {
	case '!':
		return negation(p.within('!', p.not))
	case '(':
		f := p.within('(', p.form)
		p.must(')')
		return f
	}
	return p.equality()
}

// within reads a sign, and what stands below it.
func (p *parser) within(sign byte, below func() api.Form) api.Form {
	if p.above >= mostAbove {
		refuse(api.ErrDeep, p.at)
	}
	p.must(sign)
	p.above++
	f := below()
	p.above--
	return f
}

func (p *parser) equality() api.Form {
	a := p.term()
	unequal := p.next() == '!'
	if unequal {
		p.at++ // no blank may stand between the two bytes of the sign
	}
	p.must('=')
	f := api.Form{Op: api.Equal, Pair: api.Pair{A: a, B: p.term()}}
	if unequal {
		return negation(f)
	}
	return f
}

func negation(f api.Form) api.Form {
	return api.Form{Op: api.Not, Kids: []api.Form{f}}
}

// term lets the bank read a term. It tells what is wrong, too, if there is none.
func (p *parser) term() int {
	end := p.termEnd()
	n, errno, place := p.bank.Read(p.text[p.at:end])
	if errno != api.OK {
		refuse(errno, p.at+place)
	}
	p.at = end
	p.skipBlanks()
	return n
}

// termEnd tells where the term ends that begins here: behind its name, or behind the bracket that closes its args. If
// none does, the text ends too early, or something is wrong ahead of that: the bank sees it.
func (p *parser) termEnd() int {
	ahead := *p
	for isOfName(ahead.next()) {
		ahead.at++
	}
	end := ahead.at
	ahead.skipBlanks()
	if ahead.next() != '(' {
		return end
	}
	open := 0
	for i, c := range []byte(p.text[ahead.at:]) {
		switch c {
		case '(':
			open++
		case ')':
			open--
		}
		if open == 0 {
			return ahead.at + i + 1
		}
	}
	return len(p.text)
}

func isOfName(c byte) bool {
	return 'a' <= c && c <= 'z' || '0' <= c && c <= '9'
}

// next answers the byte that stands here. At the end it answers 0, which can stand nowhere.
func (p *parser) next() byte {
	if p.at == len(p.text) {
		return 0
	}
	return p.text[p.at]
}

// must steps over a sign and the blanks behind it.
func (p *parser) must(sign byte) {
	if p.next() != sign {
		refuse(api.ErrForm, p.at)
	}
	p.at++
	p.skipBlanks()
}

func (p *parser) skipBlanks() {
	for p.next() == ' ' {
		p.at++
	}
}
