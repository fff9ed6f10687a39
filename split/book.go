package split

// Book is what is owed, a policy, and a way back. Make it by New.
type Book struct {
	now   page
	past  [maxPast]page // for each remembered operation, oldest first, the page ahead of it
	count int           // how many operations are remembered: 0 to maxPast
}

// page is all that an operation can change, and so all that taking it back needs.
type page struct {
	owed   [buckets]int
	policy string
}

// New makes a book (P10).
func New() *Book {
	return &Book{}
}

// Owed answers what is owed (P10).
func (b *Book) Owed() []int {
	return listOf(b.now.owed)
}

// Install lays a policy (P11).
func (b *Book) Install(text string) (Errno, int) {
	errno, place := Check(text)
	if errno != OK {
		return errno, place
	}
	b.remember()
	b.now.policy = text
	return OK, 0
}

// Charge makes more owed (P11).
func (b *Book) Charge(bucket string, amount int) Errno {
	if !isBucket(bucket) {
		return ErrBucket
	}
	if !isAmount(amount) {
		return ErrRange
	}
	number := int(bucket[0] - 'a')
	if b.now.owed[number] > maxAmount-amount {
		return ErrFull
	}
	b.remember()
	b.now.owed[number] += amount
	return OK
}

func isBucket(bucket string) bool {
	return len(bucket) == 1 && 'a' <= bucket[0] && bucket[0] <= 'h'
}

// Pay splits a payment (P11). The policy and what is owed have been checked when
// they came into the book, so the money is all that Share can refuse.
func (b *Book) Pay(money int) ([]int, int, Errno) {
	owed := listOf(b.now.owed)
	paid, rest, errno, _ := Share(b.now.policy, owed, money)
	if errno != OK {
		return nil, 0, errno
	}
	b.remember()
	for i := 0; i < buckets && i < len(paid); i++ {
		b.now.owed[i] -= paid[i]
	}
	return paid, rest, OK
}

// Undo takes the last operation back (P12).
func (b *Book) Undo() Errno {
	if b.count == 0 {
		return ErrNone
	}
	b.count--
	b.now = b.past[b.count]
	b.past[b.count] = page{}
	return OK
}

// remember is called ahead of a change. The oldest operation makes room: it can
// never be taken back any more.
func (b *Book) remember() {
	if b.count == maxPast {
		for i := 1; i < maxPast; i++ {
			b.past[i-1] = b.past[i]
		}
		b.count--
	}
	b.past[b.count] = b.now
	b.count++
}
