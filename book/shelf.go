package book

import (
	"iter"
	"slices"
)

// most is how many things a piece of a shelf may have.
const most = 512

// shelf is things in an order, each once. They stand in pieces, so that what comes or goes moves those of its piece alone, however many there are in all.
type shelf[T any] struct {
	order  func(a, b T) int
	pieces [][]T // at least one; none is empty, but where it is the only one
	count  int
}

func newShelf[T any](order func(a, b T) int) *shelf[T] {
	return &shelf[T]{order: order, pieces: make([][]T, 1)}
}

// find tells the piece and the place in it of the first thing that where says 0 of, or would. What stands ahead of such a thing it says less of, what stands behind it more.
func (s *shelf[T]) find(where func(T) int) (piece, place int, there bool) {
	ahead := s.pieces[:len(s.pieces)-1] // what is in none of these is for the last one
	piece, _ = slices.BinarySearchFunc(ahead, 0, func(p []T, _ int) int { return where(p[len(p)-1]) })
	place, there = slices.BinarySearchFunc(s.pieces[piece], 0, func(x T, _ int) int { return where(x) })
	return piece, place, there
}

// put puts a thing, if it is not there.
func (s *shelf[T]) put(x T) {
	i, j, there := s.find(func(y T) int { return s.order(y, x) })
	if there {
		return
	}
	s.pieces[i] = slices.Insert(s.pieces[i], j, x)
	s.count++
	if len(s.pieces[i]) > most {
		s.split(i)
	}
}

// split makes two pieces of one. Of the things that go, nothing stays behind those that stay.
func (s *shelf[T]) split(i int) {
	p := s.pieces[i]
	half := len(p) / 2
	s.pieces = slices.Insert(s.pieces, i+1, slices.Clone(p[half:]))
	clear(p[half:])
	s.pieces[i] = p[:half]
}

// take takes a thing away, if it is there.
func (s *shelf[T]) take(x T) {
	i, j, there := s.find(func(y T) int { return s.order(y, x) })
	if !there {
		return
	}
	s.pieces[i] = slices.Delete(s.pieces[i], j, j+1)
	s.count--
	if len(s.pieces[i]) == 0 && len(s.pieces) > 1 {
		s.pieces = slices.Delete(s.pieces, i, i+1)
	}
}

// those goes through what where says 0 of (see find), in order.
func (s *shelf[T]) those(where func(T) int) iter.Seq[T] {
	return func(yield func(T) bool) {
		i, j, _ := s.find(where)
		for _, p := range s.pieces[i:] {
			for _, x := range p[j:] {
				if where(x) != 0 || !yield(x) {
					return
				}
			}
			j = 0
		}
	}
}

// all goes through everything, in order.
func (s *shelf[T]) all() iter.Seq[T] {
	return s.those(func(T) int { return 0 })
}

// clone is a shelf with the same things, that goes its own way.
func (s *shelf[T]) clone() *shelf[T] {
	c := *s
	c.pieces = slices.Clone(s.pieces)
	for i, p := range c.pieces {
		c.pieces[i] = slices.Clone(p)
	}
	return &c
}
