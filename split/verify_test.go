package split_test

import (
	"math/rand"
	"strings"
	"testing"

	"split/split"
)

type verifyCase struct {
	code  string
	errno split.Errno
	place int
}

func runVerifyCases(t *testing.T, cases []verifyCase) {
	t.Helper()
	for _, c := range cases {
		errno, place := split.Verify(c.code)
		if errno != c.errno || place != c.place {
			t.Errorf("Verify(%q) = %d %d, want %d %d", c.code, errno, place, c.errno, c.place)
		}
	}
}

// Every first byte with every a, with no, one and nine instructions behind it.
func TestVerifyEveryInstruction(t *testing.T) {
	for kind := range 256 {
		for a := range 256 {
			for _, behind := range []int{0, 1, 9} {
				first := op(byte(kind), byte(a), 9, 9, 9)
				code := first + strings.Repeat(none, behind)
				if isInstruction(first, behind) != instructionIn(t, code) {
					t.Errorf("Verify(%q): the first instruction is not told right", code)
				}
			}
		}
	}
}

// instructionIn tells what Verify says of the first instruction.
func instructionIn(t *testing.T, code string) bool {
	errno, place := split.Verify(code)
	if errno == split.ErrCode && place != 0 {
		t.Errorf("Verify(%q) finds no instruction at %d", code, place)
	}
	return errno != split.ErrCode
}

func TestVerifyInstructions(t *testing.T) {
	runVerifyCases(t, []verifyCase{
		{"", split.OK, 0},
		{op('P', 7, 255, 255, 255), split.OK, 0},
		{op('P', 8), split.ErrCode, 0},
		{op('C', 7, 255, 255, 255), split.OK, 0},
		{op('C', 8), split.ErrCode, 0},
		{op('R', 0), split.OK, 0},
		{op('R', 255, 255, 255, 255), split.OK, 0},
		{op('H', 0) + back, split.ErrCode, 0},
		{op('H', 1, 255, 255, 255) + op('E', 255, 255, 255, 255), split.OK, 0},
		{op('H', 99) + back, split.OK, 0},
		{op('H', 100) + back, split.ErrCode, 0},
		{op('J', 0, 255, 255, 255), split.OK, 0},
		{op('I', 7, 0, 255, 255), split.OK, 0},
		{op('I', 8, 0), split.ErrCode, 0},
		{op('p', 0), split.ErrCode, 0},
		{op(0), split.ErrCode, 0},
		{none + none + op('P', 8) + op('X'), split.ErrCode, 2},
	})
}

func TestVerifyJumpsStayInside(t *testing.T) {
	for behind := range 120 {
		rest := strings.Repeat(none, behind)
		runVerifyCases(t, []verifyCase{
			{op('J', byte(behind)) + rest, split.OK, 0},
			{op('J', byte(behind+1)) + rest, split.ErrCode, 0},
			{op('J', 255) + rest, split.ErrCode, 0},
			{op('I', 0, byte(behind)) + rest, split.OK, 0},
			{op('I', 0, byte(behind+1)) + rest, split.ErrCode, 0},
			{op('I', 0, 255) + rest, split.ErrCode, 0},
		})
	}
	runVerifyCases(t, []verifyCase{
		{none + none + op('J', 0), split.OK, 0},
		{none + none + op('J', 1), split.ErrCode, 2},
		{none + op('I', 0, 2) + none, split.ErrCode, 1},
	})
}

// An instruction that is never reached must be one all the same, and so must
// bytes at the end; these count as one behind a jump.
func TestVerifyNoInstructionAnywhere(t *testing.T) {
	for length := 1; length <= 4; length++ {
		some := "P\x00\x00\x00"[:length]
		runVerifyCases(t, []verifyCase{
			{some, split.ErrCode, 0},
			{none + some, split.ErrCode, 1},
			{none + op('X') + some, split.ErrCode, 1},
			{op('J', 1) + some, split.ErrCode, 1},
			{op('J', 2) + some, split.ErrCode, 0},
			{op('I', 0, 1) + some, split.ErrCode, 1},
			{op('I', 0, 2) + some, split.ErrCode, 0},
			{hold + some, split.ErrCode, 1},
		})
	}
	runVerifyCases(t, []verifyCase{
		{op('J', 1) + op('X'), split.ErrCode, 1},
		{op('J', 1) + op('P', 8) + none, split.ErrCode, 1},
		{op('J', 1) + op('J', 9) + none, split.ErrCode, 1},
	})
}

func TestVerifyLength(t *testing.T) {
	full := strings.Repeat(none, 120)
	runVerifyCases(t, []verifyCase{
		{full, split.OK, 0},
		{full[:599], split.ErrCode, 119},
		{full[:596], split.ErrCode, 119},
		{full[:595] + "X0000", split.ErrCode, 119},
		{full[:595] + hold, split.ErrHeld, 120},
		{full + "R", split.ErrLong, 0},
		{full + none, split.ErrLong, 0},
		{strings.Repeat("X", 601), split.ErrLong, 0},
		{strings.Repeat("X", 600), split.ErrCode, 0},
		{strings.Repeat(back, 121), split.ErrLong, 0},
	})
}

func TestVerifyHeld(t *testing.T) {
	five := strings.Repeat(hold, 5)
	down := strings.Repeat(back, 5)
	runVerifyCases(t, []verifyCase{
		{hold + back, split.OK, 0},
		{hold + back + hold + back, split.OK, 0},
		{five + down, split.OK, 0},
		{five + back + hold + down, split.OK, 0},
		{five + hold + down + back, split.ErrHeld, 5},
		{five + back + hold + hold + down + back, split.ErrHeld, 7},
		{back, split.ErrHeld, 0},
		{none + back, split.ErrHeld, 1},
		{hold + back + back, split.ErrHeld, 2},
		{back + hold, split.ErrHeld, 0},
		{hold, split.ErrHeld, 1},
		{hold + none, split.ErrHeld, 2},
		{hold + hold + back, split.ErrHeld, 3},
		{five, split.ErrHeld, 5},
		{hold + op('J', 0), split.ErrHeld, 2},
	})
}

func TestVerifyTwoHeights(t *testing.T) {
	runVerifyCases(t, []verifyCase{
		{op('I', 0, 0) + hold + back, split.OK, 0},
		{op('I', 0, 1) + hold + back, split.ErrHeld, 2},
		{op('I', 0, 1) + hold + none + back, split.ErrHeld, 2},
		{op('I', 0, 2) + hold + back, split.OK, 0},
		{op('I', 0, 1) + hold, split.ErrHeld, 2},
		{hold + op('I', 0, 1) + back, split.ErrHeld, 3},
		{hold + op('I', 0, 1) + back + back, split.ErrHeld, 3},
		{hold + op('I', 0, 2) + back + op('J', 1) + back, split.OK, 0},
		{hold + op('I', 0, 2) + back + op('J', 0) + back, split.ErrHeld, 4},
		{op('I', 0, 2) + hold + op('J', 1) + hold + back, split.OK, 0},
		// Two heights meet at 5, which is known early, but 4 stands ahead of it.
		{op('I', 0, 4) + hold + op('I', 0, 2) + back + back, split.ErrHeld, 4},
		{op('I', 0, 4) + hold + op('I', 0, 2) + back + none, split.ErrHeld, 5},
		{op('I', 0, 3) + hold + back + back + none, split.ErrHeld, 3},
		{op('I', 0, 3) + op('I', 0, 1) + hold + none + none, split.ErrHeld, 3},
		// The heights 0, 1 and 0 again.
		{op('I', 0, 4) + op('I', 0, 2) + hold + op('J', 1) + none + none, split.ErrHeld, 5},
		// Both wrong at the same place: two heights, and one of them too high.
		{strings.Repeat(hold, 4) + op('I', 0, 1) + hold + hold, split.ErrHeld, 6},
	})
}

// Places that do not come to be have no height, whatever stands there.
func TestVerifyNeverReached(t *testing.T) {
	runVerifyCases(t, []verifyCase{
		{op('J', 1) + back, split.OK, 0},
		{op('J', 1) + hold, split.OK, 0},
		{op('J', 2) + hold + hold, split.OK, 0},
		{op('J', 2) + none + back, split.OK, 0},
		{op('J', 2) + op('I', 0, 1) + back + none, split.OK, 0},
		{op('J', 3) + hold + op('J', 1) + none + none, split.OK, 0},
		{hold + op('J', 1) + back + back, split.OK, 0},
		{hold + op('J', 2) + back + back, split.ErrHeld, 4},
		{op('J', 1) + back + back, split.ErrHeld, 2},
		{op('J', 0) + back, split.ErrHeld, 1},
		{op('J', 2) + strings.Repeat(hold, 2) + op('I', 0, 1) + hold, split.ErrHeld, 5},
	})
}

// ErrCode comes first, wherever it stands.
func TestVerifyFirstError(t *testing.T) {
	runVerifyCases(t, []verifyCase{
		{back + op('X'), split.ErrCode, 1},
		{hold + op('X'), split.ErrCode, 1},
		{back + "E", split.ErrCode, 1},
		{strings.Repeat(back, 119) + op('H', 0), split.ErrCode, 119},
	})
}

// wantVerify answers what Verify owes to code.
func wantVerify(code string) verifyCase {
	if len(code) > 600 {
		return verifyCase{code, split.ErrLong, 0}
	}
	pieces := cutInstructions(code)
	place := firstNoInstruction(pieces)
	if place >= 0 {
		return verifyCase{code, split.ErrCode, place}
	}
	place = firstHeldFault(pieces)
	if place >= 0 {
		return verifyCase{code, split.ErrHeld, place}
	}
	return verifyCase{code, split.OK, 0}
}

// All codes of up to four of some instructions.
func TestVerifyAllShortCodes(t *testing.T) {
	parts := []string{
		none, hold, back, op('J', 0), op('J', 1), op('J', 2), op('I', 0, 0), op('I', 0, 1), op('I', 0, 2), op('X'), "E",
	}
	codes := []string{""}
	for range 4 {
		longer := []string{}
		for _, code := range codes {
			for _, part := range parts {
				longer = append(longer, code+part)
			}
		}
		for _, code := range longer {
			runVerifyCases(t, []verifyCase{wantVerify(code)})
		}
		codes = longer
	}
}

func TestVerifyMadeCodes(t *testing.T) {
	random := rand.New(rand.NewSource(8))
	seen := [8]int{}
	for i := range 30000 {
		code := makeCode(random, random.Intn(20))
		if i%100 == 0 {
			code = makeCode(random, random.Intn(121))
		}
		runVerifyCases(t, []verifyCase{{code, split.OK, 0}})
		for range 1 + random.Intn(3) {
			code = spoilCode(random, code)
		}
		want := wantVerify(code)
		seen[want.errno]++
		runVerifyCases(t, []verifyCase{want})
	}
	for _, errno := range []split.Errno{split.OK, split.ErrCode, split.ErrHeld} {
		if seen[errno] < 3000 {
			t.Errorf("only %d codes answer %d", seen[errno], errno)
		}
	}
}
