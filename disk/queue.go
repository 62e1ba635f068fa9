package disk

// queue keeps items in the order in which they came, by numbers from 0.
type queue[T any] struct {
	items []T
}

func (q *queue[T]) add(item T) { q.items = append(q.items, item) }

func (q *queue[T]) many() int { return len(q.items) }

func (q *queue[T]) item(i int) T { return q.items[i] }

// empty lets the items' memory go, too: a long queue may have come from one burst of writes.
func (q *queue[T]) empty() { q.items = nil }
