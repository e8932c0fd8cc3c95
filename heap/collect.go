package heap

import "copyist/api"

// Collect removes all objects that are not reachable from roots and returns how
// many these were.
func (h *Heap) Collect(roots []api.Word) int {
	if !h.valid() {
		return 0
	}
	before := h.Many()
	for n, marked := range h.reachable(roots) {
		if !marked && h.objects[n] != nil {
			h.remove(n)
		}
	}
	return before - h.Many()
}

// reachable marks the numbers of the objects that are reachable from roots. It
// keeps the objects whose contents are still to be visited on a stack of its own,
// because lists are longer than calls may be nested.
func (h *Heap) reachable(roots []api.Word) []bool {
	marked := make([]bool, len(h.objects))
	var stack []object
	visit := func(w api.Word) {
		if o := h.find(w); o != nil && !marked[w.N] {
			marked[w.N] = true
			stack = append(stack, o)
		}
	}
	each(roots, visit)
	for len(stack) > 0 {
		last := len(stack) - 1
		o := stack[last]
		stack = stack[:last]
		contained(o, visit)
	}
	return marked
}
