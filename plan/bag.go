package plan

// bag is a set of numbers below a bound. Those that are in it stand ahead of the others, so that however many go, or come back, one number tells it.
type bag struct {
	list []int32 // all numbers below the bound
	at   []int32 // by number: its place in the list
	many int32   // so many of the list are in the bag
}

func newBag(bound int) bag {
	b := bag{list: make([]int32, bound), at: make([]int32, bound), many: int32(bound)}
	for i := range b.list {
		b.list[i], b.at[i] = int32(i), int32(i)
	}
	return b
}

func (b *bag) all() []int32 { return b.list[:b.many] }

func (b *bag) has(i int32) bool { return b.at[i] < b.many }

// gather puts a number of the bag behind those that were gathered, if it is none of them, and tells how many they are then.
func (b *bag) gather(i, gathered int32) int32 {
	p := b.at[i]
	if p < gathered {
		return gathered
	}
	other := b.list[gathered]
	b.list[gathered], b.list[p] = i, other
	b.at[i], b.at[other] = gathered, p
	return gathered + 1
}
