package sat

const (
	firstGain = 1 << 10
	mostGain  = 1 << 50
	lessGain  = 32 // so many bits all scores lose, when the gain is too great
)

// order tells which variable to try next: the one with the highest score, which conflicts raise, the later ones more.
type order struct {
	scores []uint64
	heap   []variable // none has a higher score than the one at half its place; place 0 is nobody's
	places []int      // of each variable its place in the heap, or -1
	gain   uint64
}

// newOrder knows the variables 1 to n, all without a score.
func newOrder(n int) *order {
	o := &order{scores: make([]uint64, n+1), heap: make([]variable, n+1), places: make([]int, n+1), gain: firstGain}
	for i := range o.heap {
		o.heap[i], o.places[i] = variable(i), i
	}
	return o
}

// raise lets a variable come earlier.
func (o *order) raise(v variable) {
	o.scores[v] += o.gain
	if o.places[v] >= 0 {
		o.up(o.places[v])
	}
}

// age lets the next raises count more.
func (o *order) age() {
	o.gain += o.gain / 16
	if o.gain < mostGain {
		return
	}
	o.gain >>= lessGain
	for i := range o.scores {
		o.scores[i] >>= lessGain
	}
}

// push takes in a variable, if it is not there.
func (o *order) push(v variable) {
	if o.places[v] >= 0 {
		return
	}
	o.places[v] = len(o.heap)
	o.heap = append(o.heap, v)
	o.up(o.places[v])
}

// pop takes out the variable with the highest score.
func (o *order) pop() (variable, bool) {
	last := len(o.heap) - 1
	if last == 0 {
		return 0, false
	}
	o.swap(1, last)
	v := o.heap[last]
	o.heap = o.heap[:last]
	o.places[v] = -1
	o.down(1)
	return v, true
}

func (o *order) up(i int) {
	for i > 1 && o.above(i, i/2) {
		o.swap(i, i/2)
		i /= 2
	}
}

func (o *order) down(i int) {
	for {
		best := i
		for kid := 2 * i; kid <= 2*i+1 && kid < len(o.heap); kid++ {
			if o.above(kid, best) {
				best = kid
			}
		}
		if best == i {
			return
		}
		o.swap(i, best)
		i = best
	}
}

func (o *order) above(i int, j int) bool {
	return o.scores[o.heap[i]] > o.scores[o.heap[j]]
}

func (o *order) swap(i int, j int) {
	o.heap[i], o.heap[j] = o.heap[j], o.heap[i]
	o.places[o.heap[i]], o.places[o.heap[j]] = i, j
}
