package split

// purse is the money in hand, what of it is held, what is still owed and what
// is paid. Only payAtMost pays, and never more than is in hand or owed: so
// nothing is made or lost (P5), whatever steps are gone through.
type purse struct {
	hand int
	held []int
	owed [buckets]int
	paid [buckets]int
}

// checkAmounts answers the errors ErrCount and ErrRange of P4.
func checkAmounts(owed []int, money int) (Errno, int) {
	if len(owed) != buckets {
		return ErrCount, 0
	}
	for i := 0; i < len(owed); i++ {
		if !isAmount(owed[i]) {
			return ErrRange, i
		}
	}
	if !isAmount(money) {
		return ErrRange, buckets
	}
	return OK, 0
}

func isAmount(number int) bool {
	return number >= 0 && number <= maxAmount
}

func newPurse(owed []int, money int) *purse {
	p := &purse{hand: money}
	for i := 0; i < buckets && i < len(owed); i++ {
		p.owed[i] = owed[i]
	}
	return p
}

// listOf answers new memory each time: the list becomes the caller's (P2).
func listOf(amounts [buckets]int) []int {
	list := make([]int, buckets)
	for i := 0; i < buckets; i++ {
		list[i] = amounts[i]
	}
	return list
}

// goThrough goes through steps. It ends because no step leads back.
func (p *purse) goThrough(steps []step) {
	for at := 0; at < len(steps); at++ {
		s := steps[at]
		switch s.kind {
		case 'P':
			p.pay(s.bucket)
		case 'C':
			p.payAtMost(s.bucket, s.amount)
		case 'R':
			p.payInProportion(s.among)
		case 'H':
			p.hold(s.amount)
		case 'E':
			p.takeBack()
		case 'J':
			at += s.leave
		case 'I':
			if p.owed[s.bucket] <= s.amount {
				at += s.leave
			}
		}
	}
}

func (p *purse) pay(bucket int) {
	p.payAtMost(bucket, maxAmount)
}

func (p *purse) payAtMost(bucket, most int) {
	sum := least(p.hand, most)
	sum = least(sum, p.owed[bucket])
	p.hand -= sum
	p.owed[bucket] -= sum
	p.paid[bucket] += sum
}

func least(a, b int) int {
	if a < b {
		return a
	}
	return b
}

// hold leaves so many hundredths in hand and holds the rest. (64 bits, here and
// below: an int may have only 32, and the products need more.)
func (p *purse) hold(hundredths int) {
	part := int(int64(p.hand) * int64(hundredths) / 100)
	p.held = append(p.held, p.hand-part)
	p.hand = part
}

func (p *purse) takeBack() {
	last := len(p.held) - 1
	if last < 0 {
		return
	}
	p.hand += p.held[last]
	p.held = p.held[:last]
}

func (p *purse) payInProportion(among [buckets]bool) {
	money := int64(p.hand)
	total := p.owedAmong(among)
	var fractions [buckets]int64
	for i := 0; i < buckets; i++ {
		if !among[i] {
			continue
		}
		if money >= total {
			p.pay(i)
			continue
		}
		product := money * int64(p.owed[i])
		fractions[i] = product % total
		p.payAtMost(i, int(product/total))
	}
	if money < total {
		p.payLeftOver(fractions)
	}
}

func (p *purse) owedAmong(among [buckets]bool) int64 {
	total := int64(0)
	for i := 0; i < buckets; i++ {
		if among[i] {
			total += int64(p.owed[i])
		}
	}
	return total
}

// payLeftOver pays one each where the fractions left out are the greatest. All
// are parts of the same total, so they compare as whole numbers. Each is below
// one and together they are what is in hand: it is gone before they are.
func (p *purse) payLeftOver(fractions [buckets]int64) {
	for round := 0; round < buckets && p.hand > 0; round++ {
		greatest := 0
		for i := 1; i < buckets; i++ {
			if fractions[i] > fractions[greatest] {
				greatest = i
			}
		}
		p.payAtMost(greatest, 1)
		fractions[greatest] = 0
	}
}
