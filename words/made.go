package words

import "iter"

// made is a word that is made from its end to its beginning. It is always a shortest one.
type made struct {
	*orders
	room  []byte
	start int // where the letters begin in the room; they go on to its end
}

// empty returns the empty word, with room for some letters.
func (o *orders) empty(room int) *made {
	return &made{o, make([]byte, room), room}
}

// letters returns the letters of the word; they are in the room.
func (m *made) letters() []byte {
	return m.room[m.start:]
}

// put puts letters ahead of the word, one after the other.
func (m *made) put(letters iter.Seq[byte]) {
	for letter := range letters {
		if m.bring(letter, m.letters()) {
			m.start++ // the letter is left out, with the one that is put ahead of it
		} else {
			m.start--
			m.room[m.start] = letter
		}
	}
}

// normal returns the normal word: in each place the least letter with which a shortest word goes on.
func (m *made) normal() string {
	word := m.letters()
	for at := range word {
		m.least(word[at:])
	}
	return string(word)
}

// least makes the first letter of a shortest word the least one that it can be.
func (m *made) least(word []byte) {
	for letter := range word[0] {
		if m.bring(letter, word) {
			return
		}
	}
}

// product returns words, one behind another.
func (o *orders) product(words ...string) *made {
	room := 0
	for _, word := range words {
		room += len(word)
	}
	m := o.empty(room)
	for i := range words {
		m.put(backward(words[len(words)-1-i]))
	}
	return m
}

// inverse returns a word from its end to its beginning.
func (o *orders) inverse(word string) *made {
	m := o.empty(len(word))
	m.put(forward(word))
	return m
}

// rounds returns the least number of times, at least 1, that a word has to be made to lead back; 0 if there is none.
func (o *orders) rounds(word string) int {
	m := o.empty(o.most() * len(word))
	for times := 1; times <= o.most(); times++ {
		m.put(backward(word))
		if len(m.letters()) == 0 {
			return times
		}
	}
	return 0
}

// forward yields the letters of a word.
func forward(word string) iter.Seq[byte] {
	return func(yield func(byte) bool) {
		for at := range len(word) {
			if !yield(word[at]) {
				return
			}
		}
	}
}

// backward yields the letters of a word from its end to its beginning.
func backward(word string) iter.Seq[byte] {
	return func(yield func(byte) bool) {
		for at := len(word) - 1; at >= 0; at-- {
			if !yield(word[at]) {
				return
			}
		}
	}
}
