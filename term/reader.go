package term

import "equate/api"

// reader goes through a text once, and adds terms to its bank as they end.
type reader struct {
	*Bank
	text string
	at   int
}

// refusal is what a reader panics with; whole catches it.
type refusal struct {
	errno api.Errno
	place int
}

func refuse(errno api.Errno, place int) {
	panic(refusal{errno, place})
}

// whole reads the text. That there are too many terms is told at the end only, since any other error comes ahead of it.
func (r *reader) whole() (n int, errno api.Errno, place int) {
	before := r.Size()
	defer func() {
		if stop, ok := recover().(refusal); ok {
			r.takeOut(before)
			n, errno, place = 0, stop.errno, stop.place
		}
	}()
	r.skipBlanks()
	n = r.term(0)
	if r.at < len(r.text) {
		refuse(api.ErrForm, r.at)
	}
	if r.Size() > mostTerms {
		refuse(api.ErrMany, 0)
	}
	return n, api.OK, 0
}

// term reads a term within so many others, and the blanks behind it.
func (r *reader) term(above int) int {
	place := r.at
	e := entry{name: r.name()}
	if above > mostAbove {
		refuse(api.ErrDeep, place)
	}
	if r.sign('(') {
		r.args(&e, above+1)
	}
	if !r.fits(e) {
		refuse(api.ErrTwice, place)
	}
	return r.add(e)
}

func (r *reader) name() string {
	start := r.at
	for r.at < len(r.text) && (isLetter(r.text[r.at]) || isDigit(r.text[r.at])) {
		r.at++
	}
	name := r.text[start:r.at]
	if name == "" || len(name) > mostName || isDigit(name[0]) {
		refuse(api.ErrForm, start)
	}
	r.skipBlanks()
	return name
}

// args reads what stands behind a term's bracket, up to the bracket that ends it.
func (r *reader) args(e *entry, above int) {
	for {
		if r.at == len(r.text) {
			refuse(api.ErrForm, r.at)
		}
		if e.count == mostArgs { // ahead of the arg itself: it does not matter what stands there
			refuse(api.ErrRange, r.at)
		}
		e.args[e.count] = r.term(above)
		e.count++
		if r.sign(')') {
			return
		}
		if !r.sign(',') {
			refuse(api.ErrForm, r.at)
		}
	}
}

// sign steps over a sign and the blanks behind it, if it stands there.
func (r *reader) sign(c byte) bool {
	if r.at == len(r.text) || r.text[r.at] != c {
		return false
	}
	r.at++
	r.skipBlanks()
	return true
}

func (r *reader) skipBlanks() {
	for r.at < len(r.text) && r.text[r.at] == ' ' {
		r.at++
	}
}

func isLetter(c byte) bool { return 'a' <= c && c <= 'z' }

func isDigit(c byte) bool { return '0' <= c && c <= '9' }
