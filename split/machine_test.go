package split_test

import (
	"math/rand"
	"strings"
)

// op writes an instruction; bytes that are not given are 0.
func op(kind byte, given ...byte) string {
	bytes := [5]byte{kind}
	copy(bytes[1:], given)
	return string(bytes[:])
}

// The instructions that need no number, or for which any will do.
var (
	hold = op('H', 50)
	back = op('E')
	none = op('R', 0)
)

// isInstruction tells by the document's table whether five bytes are an
// instruction with so many others behind it.
func isInstruction(bytes string, behind int) bool {
	if len(bytes) != 5 {
		return false
	}
	a, b := int(bytes[1]), int(bytes[2])
	switch bytes[0] {
	case 'P', 'C':
		return a <= 7
	case 'R', 'E':
		return true
	case 'H':
		return 1 <= a && a <= 99
	case 'J':
		return behind >= a
	case 'I':
		return a <= 7 && behind >= b
	}
	return false
}

// cutInstructions cuts code in fives; the last piece may be shorter.
func cutInstructions(code string) []string {
	pieces := []string{}
	for len(code) > 5 {
		pieces = append(pieces, code[:5])
		code = code[5:]
	}
	if code != "" {
		pieces = append(pieces, code)
	}
	return pieces
}

// firstNoInstruction answers the place of ErrCode, or -1.
func firstNoInstruction(pieces []string) int {
	for i, piece := range pieces {
		if !isInstruction(piece, len(pieces)-1-i) {
			return i
		}
	}
	return -1
}

// leadsTo answers the places that an instruction leads to.
func leadsTo(pieces []string, at int) []int {
	a, b := int(pieces[at][1]), int(pieces[at][2])
	switch pieces[at][0] {
	case 'J':
		return []int{at + 1 + a}
	case 'I':
		return []int{at + 1, at + 1 + b}
	}
	return []int{at + 1}
}

// heightsAt looks back from a place for all heights it comes to be with.
func heightsAt(pieces []string, place int, known map[int]map[int]bool) map[int]bool {
	if known[place] != nil {
		return known[place]
	}
	found := map[int]bool{}
	if place == 0 {
		found[0] = true
	}
	for from := range place {
		for _, to := range leadsTo(pieces, from) {
			if to != place {
				continue
			}
			for height := range heightsAt(pieces, from, known) {
				found[height+strings.Count(pieces[from][:1], "H")-strings.Count(pieces[from][:1], "E")] = true
			}
		}
	}
	known[place] = found
	return found
}

// firstHeldFault answers the place of ErrHeld, or -1.
func firstHeldFault(pieces []string) int {
	known := map[int]map[int]bool{}
	for place := range len(pieces) + 1 {
		heights := heightsAt(pieces, place, known)
		switch {
		case len(heights) == 0:
		case len(heights) > 1:
			return place
		case place == len(pieces):
			if !heights[0] {
				return place
			}
		case pieces[place][0] == 'H' && heights[5], pieces[place][0] == 'E' && heights[0]:
			return place
		}
	}
	return -1
}

// runCode goes through code that holds, with the model's ways to pay, and
// answers what is in hand at the end.
func (m *model) runCode(code string, money int64) int64 {
	held := []int64{}
	for at := 0; at < len(code); at += 5 {
		a, b := int(code[at+1]), int(code[at+2])
		number := int64(code[at+3])*256 + int64(code[at+4])
		switch code[at] {
		case 'P':
			money -= m.pay(a, money)
		case 'C':
			money -= m.pay(a, min(money, number))
		case 'R':
			among := []int{}
			for i := range 8 {
				if a&(1<<i) != 0 {
					among = append(among, i)
				}
			}
			money -= m.payInProportion(among, money)
		case 'H':
			stays := money * int64(a) / 100
			held = append(held, money-stays)
			money = stays
		case 'E':
			money += held[len(held)-1]
			held = held[:len(held)-1]
		case 'J':
			at += 5 * a
		case 'I':
			if m.owed[a] <= number {
				at += 5 * b
			}
		}
	}
	return money
}

// makeCode answers code that holds: it chooses the heights first, and lets
// jumps lead only to places of the same height.
func makeCode(random *rand.Rand, count int) string {
	heights := makeHeights(random, count)
	var code strings.Builder
	for i := range count {
		switch heights[i+1] - heights[i] {
		case 1:
			code.WriteString(op('H', byte(1+random.Intn(99)), anyByte(random), anyByte(random), anyByte(random)))
		case -1:
			code.WriteString(op('E', anyByte(random), anyByte(random), anyByte(random), anyByte(random)))
		default:
			code.WriteString(makeLevel(random, heights, i))
		}
	}
	return code.String()
}

func makeHeights(random *rand.Rand, count int) []int {
	heights := make([]int, count+1)
	for i := 1; i < count; i++ {
		next := heights[i-1] + []int{-1, 0, 0, 0, 1}[random.Intn(5)]
		heights[i] = max(0, min(5, next, count-i))
	}
	return heights
}

// makeLevel answers an instruction that leaves the height as it is.
func makeLevel(random *rand.Rand, heights []int, at int) string {
	leave := []byte{}
	for to := at + 1; to < len(heights) && to < at+6; to++ {
		if heights[to] == heights[at] {
			leave = append(leave, byte(to-at-1))
		}
	}
	jump := leave[random.Intn(len(leave))]
	bucket := byte(random.Intn(8))
	high := byte([]int{0, 0, 1, random.Intn(256)}[random.Intn(4)])
	switch random.Intn(5) {
	case 0:
		return op('P', bucket, anyByte(random), anyByte(random), anyByte(random))
	case 1:
		return op('C', bucket, anyByte(random), high, anyByte(random))
	case 2:
		return op('R', anyByte(random), anyByte(random), anyByte(random), anyByte(random))
	case 3:
		return op('J', jump, anyByte(random), anyByte(random), anyByte(random))
	}
	return op('I', bucket, jump, high, anyByte(random))
}

func anyByte(random *rand.Rand) byte {
	return byte(random.Intn(256))
}

// spoilCode changes code a little, so that it may hold no more.
func spoilCode(random *rand.Rand, code string) string {
	const kinds = "PCRHEJIHEJIX"
	at := random.Intn(len(code)/5 + 1)
	kind := kinds[random.Intn(len(kinds))]
	small := op(kind, byte(random.Intn(6)), byte(random.Intn(6)))
	switch random.Intn(6) {
	case 0:
		return code[:random.Intn(len(code)+1)]
	case 1:
		return code[:5*at] + code[min(5*at+5, len(code)):]
	case 2:
		return code[:5*at] + op(kind, anyByte(random), anyByte(random)) + code[min(5*at+5, len(code)):]
	case 3:
		return code[:5*at] + small + code[5*at:]
	}
	return code[:5*at] + small + code[min(5*at+5, len(code)):]
}
