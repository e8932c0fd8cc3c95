package heap

import "container/heap"

// numbers is a heap in the sense of container/heap, with the least number on top.
type numbers []int

// add inserts n.
func (l *numbers) add(n int) { heap.Push(l, n) }

// least removes the least number and returns it.
func (l *numbers) least() int { return heap.Pop(l).(int) }

// Len returns how many numbers there are.
func (l numbers) Len() int { return len(l) }

// Less orders the numbers at two indexes.
func (l numbers) Less(i, j int) bool { return l[i] < l[j] }

// Swap exchanges the numbers at two indexes.
func (l numbers) Swap(i, j int) { l[i], l[j] = l[j], l[i] }

// Push appends an int for container/heap, which moves it to its place.
func (l *numbers) Push(x any) { *l = append(*l, x.(int)) }

// Pop removes the last number, where container/heap has put the least one.
func (l *numbers) Pop() any {
	last := len(*l) - 1
	n := (*l)[last]
	*l = (*l)[:last]
	return n
}
