package clock

import "cmp"

// end is the reading at which a name ends.
type end struct {
	name  string
	at    int64
	place int // among the ends
}

// ends is a heap, as container/heap asks for it: the end that is told next stands first.
type ends []*end

// Len answers how many ends there are.
func (l ends) Len() int {
	return len(l)
}

// Less answers whether the one at place i is told ahead of the one at place j.
func (l ends) Less(i, j int) bool {
	return cmp.Or(cmp.Compare(l[i].at, l[j].at), cmp.Compare(l[i].name, l[j].name)) < 0
}

// Swap lets two ends change places.
func (l ends) Swap(i, j int) {
	l[i], l[j] = l[j], l[i]
	l[i].place, l[j].place = i, j
}

// Push puts an end behind the others.
func (l *ends) Push(x any) {
	e := x.(*end)
	e.place = len(*l)
	*l = append(*l, e)
}

// Pop takes the last end away.
func (l *ends) Pop() any {
	last := len(*l) - 1
	e := (*l)[last]
	// The spare room would keep it.
	(*l)[last] = nil
	*l = (*l)[:last]
	return e
}
