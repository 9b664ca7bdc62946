package parse

import (
	"slices"

	"moiety/api"
	"moiety/dims"
	"moiety/lex"
)

// reader is the side that fills a command from a line's words.
type reader struct {
	d     *dims.Dims
	words []lex.Word
	at    int // the word that is next
}

// first is the kind whose line begins with the first word.
func (r *reader) first() int {
	kind := Kind(r.word(lex.Name).Text)
	r.pass(kind != 0, api.ErrForm)
	return kind
}

// end hands up a fault, if there is a word left.
func (r *reader) end() {
	if r.at < len(r.words) {
		r.fail(api.ErrForm)
	}
}

func (r *reader) name(s *string) {
	*s = r.word(lex.Name).Text
	r.at++
}

func (r *reader) cell(c *api.Cell) {
	parts := r.word(lex.Cell).Parts
	x, why := r.d.Cell(parts[0], parts[1:]...)
	r.pass(why == api.OK, why)
	*c = x
}

func (r *reader) num(n *int64) {
	*n = r.word(lex.Num).N
	r.at++
}

func (r *reader) meas(k *int) {
	*k = r.d.Meas(r.word(lex.Name).Text)
	r.pass(*k >= 0, api.ErrNone)
}

func (r *reader) dim(k *int) {
	*k = r.d.Find(r.word(lex.Name).Text)
	r.pass(*k >= 0, api.ErrNone)
}

func (r *reader) choice(k *int, words ...string) {
	if r.at == len(r.words) {
		return
	}
	*k = slices.Index(words, r.word(lex.Name).Text)
	r.pass(*k >= 0, api.ErrForm)
}

// word is the next word, which is to be of a kind.
func (r *reader) word(kind int) lex.Word {
	if r.at == len(r.words) || r.words[r.at].Kind != kind {
		r.fail(api.ErrForm)
	}
	return r.words[r.at]
}

// pass goes on behind the next word, if that can stand there.
func (r *reader) pass(can bool, why api.Errno) {
	if !can {
		r.fail(why)
	}
	r.at++
}

// fail hands up that the next word can not stand there.
func (r *reader) fail(why api.Errno) {
	panic(fault{r.at, why})
}
