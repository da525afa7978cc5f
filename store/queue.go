package store

// ranked: what may stand in a queue.
type ranked interface {
	rank() string // the least comes first, by its bytes
}

// queue: for container/heap.
type queue []ranked

func (q queue) Len() int { return len(q) }

func (q queue) Less(i, k int) bool { return q[i].rank() < q[k].rank() }

func (q queue) Swap(i, k int) { q[i], q[k] = q[k], q[i] }

// Push: behind all; the heap moves it to its place.
func (q *queue) Push(x any) {
	if r, ok := x.(ranked); ok {
		*q = append(*q, r)
	}
}

// Pop: the last; the heap has moved the least there.
func (q *queue) Pop() any {
	last := len(*q) - 1
	r := (*q)[last]
	*q = (*q)[:last]
	return r
}
