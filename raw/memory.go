package raw

import "copyhold/api"

// word is the word at a place. Every place comes of thing, so that there is such a word.
func (m *Machine) word(at int64) int64 {
	n, _ := m.Load(int(at))
	return n
}

// thing takes so many words at the region of a handle, and answers where they are. They begin with the words of the list, noughts stand behind it.
func (m *Machine) thing(handle int64, size int, list ...int64) int64 {
	at, full := m.Get(int(handle), size)
	mustOrEnd(full == 0, api.EndMemory)
	for i, n := range list {
		m.Store(at+i, n)
	}
	return int64(at)
}

func (m *Machine) tuple(handle int64, fields []int64) int64 {
	return m.thing(handle, max(len(fields), 1), fields...)
}

// array keeps its length in its first word, for there is nothing else that could tell it.
func (m *Machine) array(handle, n int64) int64 {
	mustOrEnd(n >= 0 && n <= api.MaxArray, api.EndLength)
	return m.thing(handle, int(n)+1, n)
}

// element is the place of the number k of the array at a place.
func (m *Machine) element(at, k int64) int64 {
	mustOrEnd(k >= 0 && k < m.word(at), api.EndIndex)
	return at + 1 + k
}
