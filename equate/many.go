package equate

import (
	"sync"

	"equate/api"
)

const mostWorkers = 16

// Many answers many scripts, by several goroutines (K2).
func Many(scripts [][]string, workers int) ([][]string, api.Errno) {
	if workers < 1 || workers > mostWorkers {
		return nil, api.ErrRange
	}
	all := make([][]string, len(scripts))
	next := make(chan int, 1) // how many scripts are taken: who holds the number takes the next one
	next <- 0
	var group sync.WaitGroup
	for range workers {
		group.Go(func() {
			for n, ok := take(next, len(scripts)); ok; n, ok = take(next, len(scripts)) {
				all[n] = answers(scripts[n])
			}
		})
	}
	group.Wait()
	return all, api.OK
}

// take answers the number of a script that nobody took, if there is one.
func take(next chan int, count int) (int, bool) {
	n := <-next
	if n == count {
		next <- n
		return 0, false
	}
	next <- n + 1
	return n, true
}

// answers answers what a new session does to the lines of a script.
func answers(script []string) []string {
	s := New()
	list := make([]string, len(script))
	for i, line := range script {
		list[i] = s.Line(line)
	}
	return list
}
