package split_test

import (
	"fmt"
	"math/big"
	"math/rand"
	"sort"
	"strings"
)

// node is a step as a tree; its text and what it pays are told from it without
// the program, to hold the program against.
type node struct {
	kind    byte
	buckets []int
	number  int
	blocks  [][]node
}

func makePolicy(random *rand.Rand, depth, most int) []node {
	policy := []node{}
	for range random.Intn(most + 1) {
		policy = append(policy, makeNode(random, depth, most))
	}
	return policy
}

func makeNode(random *rand.Rand, depth, most int) node {
	kinds := "PCR"
	if depth > 0 {
		kinds = "PCRHHII"
	}
	n := node{kind: kinds[random.Intn(len(kinds))]}
	switch n.kind {
	case 'R':
		n.buckets = random.Perm(8)[:2+random.Intn(7)]
		sort.Ints(n.buckets)
	case 'H':
		n.number = 1 + random.Intn(99)
		n.blocks = [][]node{makePolicy(random, depth-1, most)}
	case 'I':
		n.blocks = [][]node{makePolicy(random, depth-1, most), makePolicy(random, depth-1, most)}
	}
	if n.kind != 'R' && n.kind != 'H' {
		n.buckets = []int{random.Intn(8)}
	}
	if n.kind == 'C' || n.kind == 'I' {
		n.number = random.Intn([]int{10, 100, 10000}[random.Intn(3)])
	}
	return n
}

func writePolicy(policy []node) string {
	var text strings.Builder
	for _, n := range policy {
		text.WriteByte(n.kind)
		for _, bucket := range n.buckets {
			text.WriteByte("abcdefgh"[bucket])
		}
		if n.kind == 'C' || n.kind == 'I' {
			fmt.Fprintf(&text, "%04d", n.number)
		}
		if n.kind == 'H' {
			fmt.Fprintf(&text, "%02d", n.number)
		}
		for _, block := range n.blocks {
			text.WriteString("(" + writePolicy(block) + ")")
		}
	}
	return text.String()
}

// model pays as the document's words say, a policy's tree at hand.
type model struct {
	owed [8]int64
	paid [8]int64
}

func newModel(owed []int) *model {
	m := &model{}
	for i := range owed {
		m.owed[i] = int64(owed[i])
	}
	return m
}

// goThrough answers what of the money is left.
func (m *model) goThrough(policy []node, money int64) int64 {
	for _, n := range policy {
		switch n.kind {
		case 'P':
			money -= m.pay(n.buckets[0], money)
		case 'C':
			money -= m.pay(n.buckets[0], min(money, int64(n.number)))
		case 'R':
			money -= m.payInProportion(n.buckets, money)
		case 'H':
			part := money * int64(n.number) / 100
			money = money - part + m.goThrough(n.blocks[0], part)
		case 'I':
			block := n.blocks[1]
			if m.owed[n.buckets[0]] > int64(n.number) {
				block = n.blocks[0]
			}
			money = m.goThrough(block, money)
		}
	}
	return money
}

func (m *model) pay(bucket int, most int64) int64 {
	sum := min(most, m.owed[bucket])
	m.owed[bucket] -= sum
	m.paid[bucket] += sum
	return sum
}

type share struct {
	bucket   int
	whole    int64
	fraction *big.Rat
}

func (m *model) payInProportion(among []int, money int64) int64 {
	total := int64(0)
	for _, bucket := range among {
		total += m.owed[bucket]
	}
	if money >= total {
		for _, bucket := range among {
			m.pay(bucket, m.owed[bucket])
		}
		return total
	}
	shares := []share{}
	left := money
	for _, bucket := range among {
		exact := new(big.Rat).Mul(big.NewRat(money, 1), big.NewRat(m.owed[bucket], total))
		whole := new(big.Int).Quo(exact.Num(), exact.Denom())
		fraction := new(big.Rat).Sub(exact, new(big.Rat).SetInt(whole))
		shares = append(shares, share{bucket, whole.Int64(), fraction})
		left -= whole.Int64()
	}
	sort.SliceStable(shares, func(i, j int) bool { return shares[i].fraction.Cmp(shares[j].fraction) > 0 })
	for i, s := range shares {
		sum := s.whole
		if int64(i) < left {
			sum++
		}
		m.owed[s.bucket] -= sum
		m.paid[s.bucket] += sum
	}
	return money
}
