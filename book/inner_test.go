package book

import (
	"cmp"
	"math/rand"
	"slices"
	"testing"
)

// whole tells what is wrong with a shelf of numbers in order: what it has is all in small pieces, and nothing that went stays in their spare room.
func whole(s *shelf[*int], want []int) string {
	var got []int
	for _, p := range s.pieces {
		if len(p) > most || len(p) == 0 && len(s.pieces) > 1 {
			return "a piece is too great, or empty"
		}
		for _, x := range p {
			got = append(got, *x)
		}
		if slices.ContainsFunc(p[len(p):cap(p)], func(x *int) bool { return x != nil }) {
			return "something that went is kept"
		}
	}
	if !slices.Equal(got, want) || s.count != len(want) {
		return "other things are there"
	}
	return ""
}

func TestPieces(t *testing.T) {
	die := rand.New(rand.NewSource(1))
	s := newShelf(func(a, b *int) int { return cmp.Compare(*a, *b) })
	var want []int
	for _, way := range []struct{ steps, puts int }{{4000, 10}, {6000, 5}, {40000, 1}, {3000, 9}} { // it grows, it changes, it goes, it grows again
		old, was := s.clone(), slices.Clone(want)
		for n := range way.steps {
			x := die.Intn(3000)
			i, there := slices.BinarySearch(want, x)
			if die.Intn(10) < way.puts {
				s.put(&x)
				if !there {
					want = slices.Insert(want, i, x)
				}
			} else {
				s.take(&x)
				if there {
					want = slices.Delete(want, i, i+1)
				}
			}
			if n%50 == 0 || len(want) < 3 {
				if wrong := whole(s, want); wrong != "" {
					t.Fatalf("%s: %d things, %d pieces", wrong, len(want), len(s.pieces))
				}
			}
		}
		t.Log(len(want), "things in", len(s.pieces), "pieces")
		if wrong := whole(old, was); wrong != "" {
			t.Fatal("of a clone that stayed:", wrong)
		}
	}
	for len(want) > 0 {
		i := die.Intn(len(want))
		s.take(&want[i])
		want = slices.Delete(want, i, i+1)
	}
	if wrong := whole(s, nil); wrong != "" || len(s.pieces) != 1 {
		t.Error(wrong, len(s.pieces))
	}
}

func TestThose(t *testing.T) {
	s := newShelf(cmp.Compare[int])
	const n = 5 * most
	for i := range n {
		s.put(i)
	}
	for _, of := range []int{1, 3, most / 2, most, most + 1, 2 * most, n} { // those that begin anywhere in a piece, and end anywhere
		for from := -of; from <= n+of; from += of {
			var got []int
			for x := range s.those(func(x int) int {
				if x < from {
					return -1
				}
				return max(0, x-from-of+1)
			}) {
				got = append(got, x)
			}
			first, last := min(max(from, 0), n), min(max(from+of, 0), n)
			if len(got) != last-first || len(got) > 0 && (got[0] != first || got[len(got)-1] != last-1) {
				t.Fatalf("%d from %d on: %d", of, from, len(got))
			}
		}
	}
	for leave := range 3 {
		told := 0
		for range s.all() {
			if told == leave {
				break
			}
			told++
		}
		if told != leave {
			t.Error(told)
		}
	}
}
