// Package cols holds what columns of numbers and of bytes have in common: how plain ones, runs and dictionaries are told and read.
package cols

import (
	"slices"

	"colonnade/bitp"
	"colonnade/code"
)

// Most is how many values a column has at most.
const Most = 65535

// Coder tells and reads columns of one kind of value.
type Coder[T any] struct {
	Put     func(b []byte, v T) []byte // v behind b
	Take    func(r *code.Reader) T
	Compare func(a, b T) int
	Copy    func(v T) T
}

// Plain tells each value.
func (c Coder[T]) Plain(l []T) []byte {
	var b []byte
	for _, v := range l {
		b = c.Put(b, v)
	}
	return b
}

// ReadPlain reads what Plain told of count values, and nothing else.
func (c Coder[T]) ReadPlain(r *code.Reader, count int) ([]T, bool) {
	l := make([]T, 0, count)
	for range count {
		l = append(l, c.Take(r))
	}
	return whole(r, l)
}

// Runs tells of each run of one value how long it is, and the value.
func (c Coder[T]) Runs(l []T) []byte {
	var b []byte
	for len(l) > 0 {
		n := c.run(l)
		b = append(b, code.Num(nil, uint64(n))...)
		b = c.Put(b, l[0])
		l = l[n:]
	}
	return b
}

// ReadRuns reads what Runs told of count values, and nothing else.
func (c Coder[T]) ReadRuns(r *code.Reader, count int) ([]T, bool) {
	l := make([]T, 0, count)
	for len(l) < count {
		n := r.Num()
		v := c.Take(r)
		// Two runs of one value would be one run.
		same := len(l) > 0 && c.Compare(l[len(l)-1], v) == 0
		if !r.Ok() || n == 0 || n > uint64(count-len(l)) || same {
			return nil, false
		}
		for range n {
			l = append(l, c.Copy(v))
		}
	}
	return whole(r, l)
}

// Dict tells the unlike values, rising, and each one's place among them.
func (c Coder[T]) Dict(l []T) []byte {
	words := slices.Clone(l)
	slices.SortFunc(words, c.Compare)
	words = slices.CompactFunc(words, func(x, y T) bool { return c.Compare(x, y) == 0 })
	b := append(code.Num(nil, uint64(len(words))), c.Plain(words)...)
	places := make([]uint64, len(l))
	for i, v := range l {
		place, _ := slices.BinarySearchFunc(words, v, c.Compare)
		places[i] = uint64(place)
	}
	return append(b, bitp.Pack(placeWidth(len(words)), places...)...)
}

// ReadDict reads what Dict told of count values, and nothing else.
func (c Coder[T]) ReadDict(r *code.Reader, count int) ([]T, bool) {
	n := r.Num()
	if n > uint64(count) {
		return nil, false
	}
	words, ok := c.readWords(r, int(n))
	if !ok {
		return nil, false
	}
	places, ok := bitp.Unpack(r.Rest(), placeWidth(len(words)), count)
	if !ok || !allUsed(places, len(words)) {
		return nil, false
	}
	l := make([]T, count)
	for i, place := range places {
		l[i] = c.Copy(words[place])
	}
	return l, true
}

// Shortest answers what the kind told by which the fewest bytes are told: the least such kind of 1 to kinds.
func Shortest(kinds int, tell func(kind int) ([]byte, bool)) []byte {
	var best []byte
	for kind := 1; kind <= kinds; kind++ {
		b, ok := tell(kind)
		if ok && (best == nil || len(b) < len(best)) {
			best = b
		}
	}
	return best
}

func (c Coder[T]) run(l []T) int {
	n := 1
	for n < len(l) && c.Compare(l[0], l[n]) == 0 {
		n++
	}
	return n
}

func (c Coder[T]) readWords(r *code.Reader, n int) ([]T, bool) {
	words := make([]T, 0, n)
	for i := range n {
		v := c.Take(r)
		if !r.Ok() || i > 0 && c.Compare(words[i-1], v) >= 0 {
			return nil, false
		}
		words = append(words, v)
	}
	return words, r.Ok()
}

// placeWidth: of one word, and of none, no bits are needed to tell the place.
func placeWidth(words int) int {
	return bitp.Width(uint64(max(words-1, 0)))
}

// allUsed tells whether each of so many words stands at some place, and no place is beyond them.
func allUsed(places []uint64, words int) bool {
	used := make([]bool, words)
	left := words
	for _, place := range places {
		if place >= uint64(words) {
			return false
		}
		if !used[place] {
			used[place] = true
			left--
		}
	}
	return left == 0
}

func whole[T any](r *code.Reader, l []T) ([]T, bool) {
	if !r.Ok() || len(r.Rest()) > 0 {
		return nil, false
	}
	return l, true
}
