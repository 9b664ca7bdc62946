package parse

import (
	"moiety/api"
	"moiety/dims"
	"moiety/text"
)

// writer is the side that puts a command's fields as words.
type writer struct {
	d     *dims.Dims
	words []string
}

// first puts the word with which a kind's line begins.
func (w *writer) first(kind int) {
	word := Name(kind)
	w.must(word != "")
	w.put(word)
}

func (w *writer) name(s *string) {
	w.must(text.Name(*s))
	w.put(*s)
}

func (w *writer) cell(c *api.Cell) {
	shown := w.d.Show(*c)
	w.must(shown != "")
	w.put(shown)
}

func (w *writer) num(n *int64) {
	w.put(text.Num(*n))
}

func (w *writer) meas(k *int) {
	w.pick(*k, w.d.Cat().Meas)
}

func (w *writer) dim(k *int) {
	var labels []string
	for _, x := range w.d.Cat().Dims {
		labels = append(labels, x.Name)
	}
	w.pick(*k, labels)
}

func (w *writer) choice(k *int, words ...string) {
	if *k != 0 {
		w.pick(*k, words)
	}
}

// pick puts the word that is in the place k.
func (w *writer) pick(k int, words []string) {
	w.must(k >= 0 && k < len(words))
	w.put(words[k])
}

func (w *writer) put(word string) {
	w.words = append(w.words, word)
}

// must hands up that there is no such line, if it can not be.
func (w *writer) must(can bool) {
	if !can {
		panic(fault{why: api.ErrArg})
	}
}
