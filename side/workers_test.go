package side

import (
	"runtime"
	"strconv"
	"sync"
	"sync/atomic"
	"testing"
	"time"
)

// Answers of any type come in the order of their numbers, also where a later one is made first.
func TestOfAll(t *testing.T) {
	for n := range 40 {
		for workers := 1; workers <= 16; workers++ {
			list := ofAll(n, workers, func(k int) string {
				if k%3 == 0 {
					runtime.Gosched()
				}
				return strconv.Itoa(k * k)
			})
			if len(list) != n {
				t.Fatal(n, workers, list)
			}
			for k, text := range list {
				if text != strconv.Itoa(k*k) {
					t.Fatal(n, workers, list)
				}
			}
		}
	}
}

// Each number is handed out once, and only to so many workers as were asked for.
func TestOnceEach(t *testing.T) {
	for workers := 1; workers <= 16; workers++ {
		var calls [100]atomic.Int32
		var now, peak atomic.Int32
		ofAll(len(calls), workers, func(k int) struct{} {
			calls[k].Add(1)
			for busy := now.Add(1); ; {
				was := peak.Load()
				if busy <= was || peak.CompareAndSwap(was, busy) {
					break
				}
			}
			runtime.Gosched()
			now.Add(-1)
			return struct{}{}
		})
		for k := range calls {
			if calls[k].Load() != 1 {
				t.Fatal(workers, k, calls[k].Load())
			}
		}
		if int(peak.Load()) > workers {
			t.Errorf("%d at once by %d", peak.Load(), workers)
		}
	}
}

// All workers are at work at once: each waits here until all of them have come, so that fewer would never end.
func TestSideBySide(t *testing.T) {
	for workers := 1; workers <= 16; workers++ {
		var here sync.WaitGroup
		here.Add(workers)
		done := make(chan []int)
		go func() {
			done <- ofAll(workers, workers, func(k int) int {
				here.Done()
				here.Wait()
				return k
			})
		}()
		select {
		case list := <-done:
			if len(list) != workers {
				t.Error(list)
			}
		case <-time.After(20 * time.Second):
			t.Fatalf("fewer than %d at once", workers)
		}
	}
}

// None is left behind when the call answers; one that has told its end may need a moment to go.
func TestAllJoined(t *testing.T) {
	was := runtime.NumGoroutine()
	for n := range 30 {
		for workers := 1; workers <= 16; workers++ {
			ofAll(n, workers, func(k int) int { return k })
		}
	}
	for range 1000 {
		if runtime.NumGoroutine() <= was {
			return
		}
		time.Sleep(5 * time.Millisecond)
	}
	t.Errorf("%d goroutines, %d ahead of it", runtime.NumGoroutine(), was)
}
