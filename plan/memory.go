package plan

import (
	"slices"
	"strconv"
)

// What is known of a part.
const (
	unknown    = 0
	possible   = 1 // there are values for all of its variables
	impossible = 2 // there are none
)

// maxMemory are about the bytes that a search's memory takes at most.
const maxMemory = 1 << 26

// maxMarks is of how many values at most it is told of each one whether a variable may have it.
const maxMarks = 256

// memory is what was found of parts, by their names, and the numbers of the sets of variables that they are of. It spares time alone: whatever is forgotten is found again.
type memory struct {
	found map[string]int
	sets  map[string]int // each one's number is how many there were ahead of it, and one more
	bytes int
	most  int // so many bytes, or about so many, may it take
}

func newMemory(most int) memory {
	return memory{found: map[string]int{}, sets: map[string]int{}, most: most}
}

// forget forgets all, if there is no room for one more key, and tells whether it did.
func (m *memory) forget(key string) bool {
	if m.bytes <= m.most-need(key) {
		return false
	}
	clear(m.found)
	clear(m.sets)
	m.bytes = 0
	return true
}

// need are about the bytes that a key takes, with what the map needs for it.
func need(key string) int { return len(key) + 64 }

// put puts down what was found of a part; but not where all is forgotten for it: the number by which its name tells its set is that of no set any more.
func (m *memory) put(key string, verdict int) {
	if !m.forget(key) {
		m.found[key] = verdict
		m.bytes += need(key)
	}
}

// set is the number of a set of variables.
func (m *memory) set(variables []int32) int {
	key := string(appendNumbers(nil, variables...))
	if m.sets[key] == 0 {
		m.forget(key)
		m.sets[key] = len(m.sets) + 1
		m.bytes += need(key)
	}
	return m.sets[key]
}

// name tells what a part hangs on: its variables; of those that lost values which ones are left; and the values of the other variables of its relations. Of a relation that has one variable of the part, whose values are told, nothing more is to be told.
func (s *search) name(p *part) string {
	slices.Sort(p.variables)
	slices.Sort(p.relations)
	b := append(strconv.AppendInt(nil, int64(s.memory.set(p.variables)), 10), ' ')
	for k, v := range p.variables {
		if x := s.variables[v]; s.marked(v) && x.domain.many < x.whole {
			b = appendMarks(appendNumbers(b, int32(k)), &x.domain)
		}
	}
	for _, i := range p.relations {
		n := s.relations[i]
		open, told := 0, true
		for _, v := range n.variables {
			if s.asked(v) {
				open++
				told = s.marked(v)
			}
		}
		if open == 1 && told {
			continue
		}
		for _, v := range n.variables {
			if int(v) < s.given && !s.asked(v) {
				b = appendNumbers(b, s.variables[v].domain.list[0])
			}
		}
	}
	return string(b)
}

// marked tells whether a variable's values are told, each one.
func (s *search) marked(v int32) bool { return len(s.variables[v].domain.list) <= s.marks }

// appendMarks puts a bit for each number below a bag's bound behind others: whether it is in the bag.
func appendMarks(b []byte, x *bag) []byte {
	at := len(b)
	b = append(b, make([]byte, (len(x.list)+7)/8)...)
	for _, i := range x.all() {
		b[at+int(i)/8] |= 1 << (i % 8)
	}
	return b
}
