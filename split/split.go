// Package split: policies that split payments over what is owed, their compiler, and a book: see DOC.md.
package split

// Errno is what a call answers: OK or the reason for a refusal.
type Errno int

const (
	OK        Errno = 0
	ErrLong   Errno = 1  // a text above its bound
	ErrText   Errno = 2  // no policy
	ErrDeep   Errno = 3  // too many blocks, one in another
	ErrCount  Errno = 4  // not eight numbers
	ErrRange  Errno = 5  // an amount that may not be
	ErrCode   Errno = 6  // no instruction
	ErrHeld   Errno = 7  // what is held does not fit
	ErrBucket Errno = 8  // no bucket
	ErrFull   Errno = 9  // too much would be owed
	ErrNone   Errno = 10 // nothing to take back
)

const (
	maxText   = 120
	maxDepth  = 5
	maxCode   = 600
	maxHeld   = 5
	maxAmount = 1000000000
	maxPast   = 12
	buckets   = 8
)

// Check tells whether a text is a policy (P3).
func Check(text string) (Errno, int) {
	_, errno, place := parse(text)
	return errno, place
}

// Share works out what a policy pays (P4).
func Share(text string, owed []int, money int) ([]int, int, Errno, int) {
	steps, errno, place := parse(text)
	if errno != OK {
		return nil, 0, errno, place
	}
	return settle(steps, owed, money)
}

// settle answers what steps pay, or the errors ErrCount and ErrRange of P4.
func settle(steps []step, owed []int, money int) ([]int, int, Errno, int) {
	errno, place := checkAmounts(owed, money)
	if errno != OK {
		return nil, 0, errno, place
	}
	p := newPurse(owed, money)
	p.goThrough(steps)
	paid := listOf(p.paid)
	return paid, p.hand, OK, 0
}

// Verify checks code (P6, P7).
func Verify(code string) (Errno, int) {
	_, errno, place := load(code)
	return errno, place
}

// Run runs code (P8).
func Run(code string, owed []int, money int) ([]int, int, Errno, int) {
	steps, errno, place := load(code)
	if errno != OK {
		return nil, 0, errno, place
	}
	return settle(steps, owed, money)
}

// Compile makes code of a policy (P9).
func Compile(text string) (string, Errno, int) {
	steps, errno, place := parse(text)
	if errno != OK {
		return "", errno, place
	}
	code := encode(steps)
	return code, OK, 0
}
