package shelf

import (
	"iter"
	"sync"
)

// steps goes through a sequence element by element, as they are asked for. To go through two sequences side by side, each once, one of them must wait while the other goes on, so it runs in a goroutine of its own. It runs only while somebody waits for it: nothing runs at the same time as anything else, and how far it has come hangs on what was asked alone.
type steps[T any] struct {
	of     iter.Seq[T]
	ask    chan struct{} // asks for one more element; closed, when no more are wanted
	give   chan T        // closed, when the sequence has ended
	worker sync.WaitGroup

	begun, ended bool
	head         T // the element that comes next, if it is known
	known        bool
	fault        any // what the sequence has panicked with
}

// stepsOf has the sequence begin when the first element is asked for.
func stepsOf[T any](s iter.Seq[T]) *steps[T] {
	return &steps[T]{of: s, ask: make(chan struct{}), give: make(chan T)}
}

// run is the worker. A panic of the sequence is handed to whoever waits for it: here nobody could catch it.
func (s *steps[T]) run() {
	defer close(s.give)
	defer func() {
		s.fault = recover()
	}()
	for x := range s.of {
		s.give <- x
		if _, wanted := <-s.ask; !wanted {
			return
		}
	}
}

// more says whether there is one more element; that is the head then.
func (s *steps[T]) more() bool {
	if s.known || s.ended {
		return s.known
	}
	if s.begun {
		s.ask <- struct{}{}
	} else {
		s.begun = true
		s.worker.Go(s.run)
	}
	s.head, s.known = <-s.give
	s.ended = !s.known
	if s.ended {
		s.raise()
	}
	return s.known
}

// take answers the head, which must be known, and goes on behind it.
func (s *steps[T]) take() T {
	s.known = false
	return s.head
}

// stop ends the sequence, if it is under way, and waits until it has ended.
func (s *steps[T]) stop() {
	close(s.ask)
	s.worker.Wait()
	s.raise()
}

// raise lets the panic by which the sequence has ended, if it has, go on here.
func (s *steps[T]) raise() {
	if s.fault != nil {
		panic(s.fault)
	}
}

// isBelow says whether there is one more element, and it is below x.
func (s *steps[T]) isBelow(compare func(a, b T) int, x T) bool {
	return s.more() && compare(s.head, x) < 0
}

// isLike says whether there is one more element, and it is like x.
func (s *steps[T]) isLike(compare func(a, b T) int, x T) bool {
	return s.more() && compare(s.head, x) == 0
}

// pass goes on behind the elements that are below x.
func (s *steps[T]) pass(compare func(a, b T) int, x T) {
	for s.isBelow(compare, x) {
		s.take()
	}
}
