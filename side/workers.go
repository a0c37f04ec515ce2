package side

import "sync"

// made of a number: as the answers come in any order, each has its number with it.
type made[T any] struct {
	number int
	answer T
}

// ofAll is the answers of the numbers 0 to n - 1, in their order, made by so many workers.
func ofAll[T any](n, workers int, answer func(number int) T) []T {
	numbers, answers := make(chan int), make(chan made[T])
	var group sync.WaitGroup
	for range min(n, workers) {
		group.Add(1)
		go func() {
			defer group.Done()
			work(numbers, answers, answer)
		}()
	}
	list := handOut(n, numbers, answers)
	close(numbers)
	group.Wait()
	return list
}

// work until there are no more numbers.
func work[T any](numbers <-chan int, answers chan<- made[T], answer func(number int) T) {
	for k := range numbers {
		answers <- made[T]{number: k, answer: answer(k)}
	}
}

// handOut the numbers, and take in what was made of them: either as soon as a worker is ready for it, so that nobody waits for good.
func handOut[T any](n int, numbers chan<- int, answers <-chan made[T]) []T {
	list := make([]T, n)
	next := 0
	for taken := 0; taken < n; {
		if next == n {
			numbers = nil // never ready: all are handed out
		}
		select {
		case numbers <- next:
			next++
		case m := <-answers:
			list[m.number] = m.answer
			taken++
		}
	}
	return list
}
