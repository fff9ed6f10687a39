package split

// step is a step of a policy, or the end of a block, or an instruction. Ends of
// blocks stand among the steps so that going through a policy needs no nesting,
// and so that its steps are, one for one, the instructions of its code.
type step struct {
	kind   byte          // P, C, R, H and I as in the text; E ends H's block, J ends I's first one
	bucket int           // of P, C and I
	amount int           // C: the cap; I: the bound; H: the hundredths
	among  [buckets]bool // of R
	leave  int           // how many steps behind it I (bound not passed) and J leave out
}

// reader reads a policy. Once a byte does not fit it reads no further, so that
// at stays the place of the first such byte.
type reader struct {
	text  string
	at    int
	bad   bool
	steps []step
	open  []int // for each open block, the number of the step (H, I or J) that it stands behind
	deep  int   // the place of the first block that is one too many, or -1
}

// parse answers a policy's steps, or the error of Check with its place.
func parse(text string) ([]step, Errno, int) {
	if len(text) > maxText {
		return nil, ErrLong, 0
	}
	r := reader{text: text, deep: -1}
	r.readAll()
	if r.bad {
		return nil, ErrText, r.at
	}
	if r.deep >= 0 {
		return nil, ErrDeep, r.deep
	}
	return r.steps, OK, 0
}

func (r *reader) readAll() {
	for !r.bad && r.at < len(r.text) {
		kind := r.text[r.at]
		r.readPart(kind)
	}
	if len(r.open) > 0 {
		r.bad = true
	}
}

// readPart reads a block's end, or a step up to its block. It reads at least a
// byte or finds it bad, so readAll ends.
func (r *reader) readPart(kind byte) {
	if kind == ')' {
		r.closeBlock()
		return
	}
	if !beginsStep(kind) {
		r.bad = true
		return
	}
	r.at++
	s := step{kind: kind}
	switch kind {
	case 'P':
		s.bucket = r.readBucket()
	case 'C', 'I':
		s.bucket = r.readBucket()
		s.amount = r.readNumber()
	case 'R':
		s.among = r.readRising()
	case 'H':
		s.amount = r.readHundredths()
	}
	r.steps = append(r.steps, s)
	if kind == 'H' || kind == 'I' {
		r.openBlock()
	}
}

func beginsStep(kind byte) bool {
	return kind == 'P' || kind == 'C' || kind == 'R' || kind == 'H' || kind == 'I'
}

// openBlock opens a block behind the last step. A block too many is only noted:
// the text may yet turn out to be no policy, which is the error that comes first.
func (r *reader) openBlock() {
	place := r.at
	r.take('(', '(')
	if r.bad {
		return
	}
	r.open = append(r.open, len(r.steps)-1)
	if len(r.open) > maxDepth && r.deep < 0 {
		r.deep = place
	}
}

func (r *reader) closeBlock() {
	last := len(r.open) - 1
	if last < 0 {
		r.bad = true
		return
	}
	r.at++
	owner := r.open[last]
	r.open = r.open[:last]
	switch r.steps[owner].kind {
	case 'H':
		r.steps = append(r.steps, step{kind: 'E'})
	case 'I':
		r.steps = append(r.steps, step{kind: 'J'})
		r.leaveOut(owner)
		r.openBlock()
	case 'J':
		r.leaveOut(owner)
	}
}

// leaveOut makes a step leave out all those that have been read behind it.
func (r *reader) leaveOut(owner int) {
	r.steps[owner].leave = len(r.steps) - 1 - owner
}

func (r *reader) readBucket() int {
	letter := r.take('a', 'h')
	return int(letter - 'a')
}

func (r *reader) readNumber() int {
	number := 0
	for i := 0; i < 4; i++ {
		digit := r.take('0', '9')
		number = 10*number + int(digit-'0')
	}
	return number
}

func (r *reader) readHundredths() int {
	tens := r.take('0', '9')
	least := byte('0')
	if tens == '0' {
		least = '1'
	}
	ones := r.take(least, '9')
	return 10*int(tens-'0') + int(ones-'0')
}

// readRising reads two or more buckets. The first one leaves room for a higher
// one, else no policy could go on behind it.
func (r *reader) readRising() [buckets]bool {
	var among [buckets]bool
	first := r.take('a', 'g')
	among[first-'a'] = true
	second := r.take(first+1, 'h')
	among[second-'a'] = true
	for letter := second + 1; letter <= 'h'; letter++ {
		if r.fits(letter, letter) {
			r.at++
			among[letter-'a'] = true
		}
	}
	return among
}

func (r *reader) fits(low, high byte) bool {
	return !r.bad && r.at < len(r.text) && low <= r.text[r.at] && r.text[r.at] <= high
}

// take reads a byte from low to high. If there is none it answers low, so that
// what it answers always lies between the two.
func (r *reader) take(low, high byte) byte {
	if !r.fits(low, high) {
		r.bad = true
		return low
	}
	letter := r.text[r.at]
	r.at++
	return letter
}
