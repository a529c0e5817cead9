// Package tick implements arithmetic on times that reports overflows: chapter 1 of the document.
package tick

import (
	"turnout/api"
)

// The limits of the numbers of a ratio, and of the operations of a sequence.
const (
	Ratio  = 4096
	MaxOps = 64
)

// The kinds of operations.
const (
	Push = iota + 1
	Plus
	Minus
	Times
	Least
	Most
	Turn
)

// Op is a stack operation; only Push uses N.
type Op struct{ Kind, N int }

// failure carries an error through a panic up to the exported function that recovers it.
type failure struct{ e api.Errno }

// Add returns the sum of two times.
func Add(a, b int) (n int, e api.Errno) {
	defer func() {
		if r := recover(); r != nil {
			n, e = 0, cause(r)
		}
	}()
	return add(a, b), api.OK
}

// Sub returns the difference of two times.
func Sub(a, b int) (n int, e api.Errno) {
	defer func() {
		if r := recover(); r != nil {
			n, e = 0, cause(r)
		}
	}()
	return sub(a, b), api.OK
}

// Mul returns the product of two times.
func Mul(a, b int) (n int, e api.Errno) {
	defer func() {
		if r := recover(); r != nil {
			n, e = 0, cause(r)
		}
	}()
	return mul(a, b), api.OK
}

// Neg returns the negated time.
func Neg(a int) (n int, e api.Errno) {
	defer func() {
		if r := recover(); r != nil {
			n, e = 0, cause(r)
		}
	}()
	return sub(0, a), api.OK
}

// Scale returns t*num/den, rounded down.
func Scale(t, num, den int) (n int, e api.Errno) {
	defer func() {
		if r := recover(); r != nil {
			n, e = 0, cause(r)
		}
	}()
	if num < -Ratio || num > Ratio || den < 1 || den > Ratio {
		return 0, api.ErrArg
	}
	// The product of a time and a ratio's number fits into 63 bits, so only the quotient is checked.
	return checked(floorDiv(checked(t)*num, den)), api.OK
}

// Clamp returns the time nearest to n.
func Clamp(n int) int {
	return min(max(n, -api.MaxTime), api.MaxTime)
}

// Eval returns the number to which a sequence of stack operations evaluates.
func Eval(l []Op) (n int, e api.Errno) {
	defer func() {
		if r := recover(); r != nil {
			n, e = 0, cause(r)
		}
	}()
	if len(l) > MaxOps {
		return 0, api.ErrSize
	}
	var s stack
	for _, op := range l {
		s.perform(op)
	}
	if len(s.numbers) != 1 {
		return 0, api.ErrArg
	}
	return s.pop(), api.OK
}

// cause returns the error of a failure; any other panic is not ours, so it goes on.
func cause(r any) api.Errno {
	f, ok := r.(failure)
	if !ok {
		panic(r)
	}
	return f.e
}

func checked(n int) int {
	if n != Clamp(n) {
		panic(failure{api.ErrOver})
	}
	return n
}

func add(a, b int) int {
	return checked(checked(a) + checked(b))
}

func sub(a, b int) int {
	return checked(checked(a) - checked(b))
}

func mul(a, b int) int {
	a, b = checked(a), checked(b)
	// The product itself may not fit into 64 bits, so the division comes first.
	if b != 0 && max(a, -a) > api.MaxTime/max(b, -b) {
		panic(failure{api.ErrOver})
	}
	return a * b
}

func floorDiv(n, den int) int {
	q := n / den
	if n%den < 0 {
		q--
	}
	return q
}

// stack holds the numbers of an evaluation; the last one is on top.
type stack struct{ numbers []int }

func (s *stack) push(n int) {
	s.numbers = append(s.numbers, n)
}

func (s *stack) pop() int {
	last := len(s.numbers) - 1
	if last < 0 {
		panic(failure{api.ErrArg})
	}
	n := s.numbers[last]
	s.numbers = s.numbers[:last]
	return n
}

func (s *stack) perform(op Op) {
	switch op.Kind {
	case Push:
		s.push(checked(op.N))
	case Turn:
		s.push(sub(0, s.pop()))
	default:
		s.combine(op.Kind)
	}
}

func (s *stack) combine(kind int) {
	if kind < Plus || kind > Most {
		panic(failure{api.ErrArg})
	}
	b := s.pop()
	a := s.pop()
	switch kind {
	case Plus:
		s.push(add(a, b))
	case Minus:
		s.push(sub(a, b))
	case Times:
		s.push(mul(a, b))
	case Least:
		s.push(min(a, b))
	case Most:
		s.push(max(a, b))
	}
}
