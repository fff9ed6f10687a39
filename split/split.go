// Package split: policies that split payments over what is owed, their compiler, and a book: see DOC.md.
package split

// Errno is what a call answers: OK or the reason for a refusal.
type Errno int

const (
	OK        Errno = 0
	ErrLong   Errno = 1  // a text above its bound
	ErrText   Errno = 2  // no policy
	ErrDeep   Errno = 3  // too many blocks, one in another
	ErrCount  Errno = 4  // not eight numbers
	ErrRange  Errno = 5  // an amount that may not be
	ErrCode   Errno = 6  // no instruction
	ErrHeld   Errno = 7  // what is held does not fit
	ErrBucket Errno = 8  // no bucket
	ErrFull   Errno = 9  // too much would be owed
	ErrNone   Errno = 10 // nothing to take back
)

const (
	maxText   = 120
	maxDepth  = 5
	maxCode   = 600
	maxHeld   = 5
	maxAmount = 1000000000
	buckets   = 8
)

// Check tells whether a text is a policy (P3).
func Check(text string) (Errno, int) {
	_, errno, place := parse(text)
	return errno, place
}

// Share works out what a policy pays (P4).
func Share(text string, owed []int, money int) ([]int, int, Errno, int) {
	steps, errno, place := parse(text)
	if errno != OK {
		return nil, 0, errno, place
	}
	return settle(steps, owed, money)
}

// settle answers what steps pay, or the errors ErrCount and ErrRange of P4.
func settle(steps []step, owed []int, money int) ([]int, int, Errno, int) {
	errno, place := checkAmounts(owed, money)
	if errno != OK {
		return nil, 0, errno, place
	}
	p := newPurse(owed, money)
	p.goThrough(steps)
	paid := p.paidList()
	return paid, p.hand, OK, 0
}

// Verify checks code (P6, P7).
func Verify(code string) (Errno, int) {
	_, errno, place := load(code)
	return errno, place
}

// Run runs code (P8).
func Run(code string, owed []int, money int) ([]int, int, Errno, int) {
	steps, errno, place := load(code)
	if errno != OK {
		return nil, 0, errno, place
	}
	return settle(steps, owed, money)
}

// Compile makes code of a policy (P9).
func Compile(text string) (string, Errno, int) {
	steps, errno, place := parse(text)
	if errno != OK {
		return "", errno, place
	}
	code := encode(steps)
	return code, OK, 0
}

// Book is what is owed, a policy, and a way back. Make it by New.
type Book struct{}

// New makes a book (P10).
func New() *Book { return &Book{} }

// Owed answers what is owed (P10).
func (b *Book) Owed() []int { return nil }

// Install lays a policy (P11).
func (b *Book) Install(text string) (Errno, int) { return 0, 0 }

// Charge makes more owed (P11).
func (b *Book) Charge(bucket string, amount int) Errno { return 0 }

// Pay splits a payment (P11).
func (b *Book) Pay(money int) ([]int, int, Errno) { return nil, 0, 0 }

// Undo takes the last operation back (P12).
func (b *Book) Undo() Errno { return 0 }
