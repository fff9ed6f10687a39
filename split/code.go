package split

// width is the number of bytes of an instruction.
const width = 5

// load answers the steps of code, or the error of Verify with its place. An
// instruction is a step, so the machine goes through code as through a policy.
func load(code string) ([]step, Errno, int) {
	if len(code) > maxCode {
		return nil, ErrLong, 0
	}
	// Bytes at the end that make no whole instruction count as one.
	count := (len(code) + width - 1) / width
	var steps []step
	for i := 0; i < count; i++ {
		s, holds := decode(code, i, count-1-i)
		if !holds {
			return nil, ErrCode, i
		}
		steps = append(steps, s)
	}
	errno, place := checkHeld(steps)
	if errno != OK {
		return nil, errno, place
	}
	return steps, OK, 0
}

// decode answers an instruction as a step, and whether it is one at all with so
// many instructions behind it.
func decode(code string, number, behind int) (step, bool) {
	at := number * width
	if at+width > len(code) {
		return step{}, false
	}
	a := int(code[at+1])
	b := int(code[at+2])
	amount := 256*int(code[at+3]) + int(code[at+4])
	kind := code[at]
	switch kind {
	case 'P':
		return step{kind: kind, bucket: a}, a < buckets
	case 'C':
		return step{kind: kind, bucket: a, amount: amount}, a < buckets
	case 'R':
		return step{kind: kind, among: bucketsOf(a)}, true
	case 'H':
		return step{kind: kind, amount: a}, a >= 1 && a <= 99
	case 'E':
		return step{kind: kind}, true
	case 'J':
		return step{kind: kind, leave: a}, a <= behind
	case 'I':
		return step{kind: kind, bucket: a, amount: amount, leave: b}, a < buckets && b <= behind
	}
	return step{}, false
}

// encode answers code of steps. What it writes in a byte always fits: a policy
// has too few steps to leave out more than 255, and no amount above 9999.
func encode(steps []step) string {
	var code []byte
	for i := 0; i < len(steps); i++ {
		s := steps[i]
		a, b, amount := s.bucket, 0, 0
		switch s.kind {
		case 'C':
			amount = s.amount
		case 'R':
			a = bitsOf(s.among)
		case 'H':
			a = s.amount
		case 'J':
			a = s.leave
		case 'I':
			b = s.leave
			amount = s.amount
		}
		code = append(code, s.kind, byte(a), byte(b), byte(amount/256), byte(amount%256))
	}
	return string(code)
}

func bucketsOf(bits int) [buckets]bool {
	var among [buckets]bool
	for i := 0; i < buckets; i++ {
		among[i] = bits%2 == 1
		bits /= 2
	}
	return among
}

func bitsOf(among [buckets]bool) int {
	bits := 0
	for i := buckets - 1; i >= 0; i-- {
		bits *= 2
		if among[i] {
			bits++
		}
	}
	return bits
}
