package split_test

import (
	"fmt"
	"math/rand"
	"strings"
	"testing"

	"split/split"
)

type runCase struct {
	code  string
	owed  []int
	money int
	want  string
}

// runRunCases compares answers as text, as runShareCases does.
func runRunCases(t *testing.T, cases []runCase) {
	t.Helper()
	for _, c := range cases {
		paid, rest, errno, place := split.Run(c.code, c.owed, c.money)
		got := fmt.Sprintf("%v %d %d %d", paid, rest, errno, place)
		if got != c.want {
			t.Errorf("Run(%q, %v, %d) = %s, want %s", c.code, c.owed, c.money, got, c.want)
		}
	}
}

func TestRunPays(t *testing.T) {
	owed := []int{10, 20, 30, 0, 5, 5, 5, 70000}
	runRunCases(t, []runCase{
		{"", owed, 50, "[0 0 0 0 0 0 0 0] 50 0 0"},
		{op('P', 0), owed, 9, "[9 0 0 0 0 0 0 0] 0 0 0"},
		{op('P', 0), owed, 11, "[10 0 0 0 0 0 0 0] 1 0 0"},
		{op('P', 7, 1, 2, 3), owed, 100000, "[0 0 0 0 0 0 0 70000] 30000 0 0"},
		{op('C', 7, 0, 0, 0), owed, 9, "[0 0 0 0 0 0 0 0] 9 0 0"},
		{op('C', 7, 9, 0, 255), owed, 100000, "[0 0 0 0 0 0 0 255] 99745 0 0"},
		{op('C', 7, 9, 1, 0), owed, 100000, "[0 0 0 0 0 0 0 256] 99744 0 0"},
		{op('C', 7, 9, 255, 255), owed, 100000, "[0 0 0 0 0 0 0 65535] 34465 0 0"},
		{op('C', 0, 9, 0, 10), owed, 50, "[10 0 0 0 0 0 0 0] 40 0 0"},
		{op('C', 0, 9, 0, 9), owed, 50, "[9 0 0 0 0 0 0 0] 41 0 0"},
		{op('C', 0, 9, 0, 9), owed, 5, "[5 0 0 0 0 0 0 0] 0 0 0"},
	})
}

func TestRunInProportion(t *testing.T) {
	owed := []int{10, 20, 30, 0, 5, 5, 5, 1}
	runRunCases(t, []runCase{
		{op('R', 0), owed, 50, "[0 0 0 0 0 0 0 0] 50 0 0"},
		{op('R', 0), owed, 0, "[0 0 0 0 0 0 0 0] 0 0 0"},
		{op('R', 1), owed, 50, "[10 0 0 0 0 0 0 0] 40 0 0"},
		{op('R', 128), owed, 50, "[0 0 0 0 0 0 0 1] 49 0 0"},
		{op('R', 2, 1, 1, 1), owed, 7, "[0 7 0 0 0 0 0 0] 0 0 0"},
		{op('R', 3), owed, 29, "[10 19 0 0 0 0 0 0] 0 0 0"},
		{op('R', 4+16+64), owed, 8, "[0 0 6 0 1 0 1 0] 0 0 0"},
		{op('R', 8), owed, 8, "[0 0 0 0 0 0 0 0] 8 0 0"},
		{op('R', 255), owed, 76, "[10 20 30 0 5 5 5 1] 0 0 0"},
		{op('R', 255), owed, 77, "[10 20 30 0 5 5 5 1] 1 0 0"},
		{op('R', 255), []int{1, 1, 1, 1, 1, 1, 1, 1}, 5, "[1 1 1 1 1 0 0 0] 0 0 0"},
		{op('R', 255), []int{most, most, most, most, most, most, most, most}, most - 1,
			"[125000000 125000000 125000000 125000000 125000000 125000000 125000000 124999999] 0 0 0"},
	})
	for i := range 8 {
		want := make([]int, 8)
		want[i] = 3
		all := []int{9, 9, 9, 9, 9, 9, 9, 9}
		runRunCases(t, []runCase{{op('R', byte(1<<i)), all, 3, fmt.Sprintf("%v 0 0 0", want)}})
	}
}

func TestRunHolds(t *testing.T) {
	owed := []int{10, 20, 30, 0, 5, 5, 5, most}
	h, pay := op('P', 7), op('P', 0)
	runRunCases(t, []runCase{
		{hold + back, owed, 19, "[0 0 0 0 0 0 0 0] 19 0 0"},
		{hold + h + back, owed, 19, "[0 0 0 0 0 0 0 9] 10 0 0"},
		{hold + pay + back + h, owed, 100, "[10 0 0 0 0 0 0 90] 0 0 0"},
		{op('H', 1) + h + back, owed, 199, "[0 0 0 0 0 0 0 1] 198 0 0"},
		{op('H', 99) + h + back, owed, most, "[0 0 0 0 0 0 0 990000000] 10000000 0 0"},
		{op('H', 99) + h + back, owed, most - 1, "[0 0 0 0 0 0 0 989999999] 10000000 0 0"},
		{hold + op('H', 10) + h + back + pay + back, owed, 100, "[10 0 0 0 0 0 0 5] 85 0 0"},
		{strings.Repeat(hold, 5) + h + strings.Repeat(back, 5), owed, 3200, "[0 0 0 0 0 0 0 100] 3100 0 0"},
		{op('H', 50) + op('H', 20) + back + h + back, owed, 100, "[0 0 0 0 0 0 0 50] 50 0 0"},
	})
}

func TestRunJumps(t *testing.T) {
	owed := []int{10, 20, 30, 0, 5, 5, 5, 300}
	a, b, c := op('P', 0), op('P', 1), op('P', 2)
	runRunCases(t, []runCase{
		{op('J', 0) + a + b, owed, 50, "[10 20 0 0 0 0 0 0] 20 0 0"},
		{op('J', 1) + a + b, owed, 50, "[0 20 0 0 0 0 0 0] 30 0 0"},
		{op('J', 2) + a + b, owed, 50, "[0 0 0 0 0 0 0 0] 50 0 0"},
		{op('I', 0, 1, 0, 9) + b + c, owed, 60, "[0 20 30 0 0 0 0 0] 10 0 0"},
		{op('I', 0, 1, 0, 10) + b + c, owed, 60, "[0 0 30 0 0 0 0 0] 30 0 0"},
		{op('I', 0, 1, 0, 11) + b + c, owed, 60, "[0 0 30 0 0 0 0 0] 30 0 0"},
		{op('I', 0, 2, 0, 11) + b + c, owed, 60, "[0 0 0 0 0 0 0 0] 60 0 0"},
		{op('I', 0, 0, 0, 11) + b + c, owed, 60, "[0 20 30 0 0 0 0 0] 10 0 0"},
		{op('I', 7, 1, 1, 43) + b + c, owed, 60, "[0 20 30 0 0 0 0 0] 10 0 0"},
		{op('I', 7, 1, 1, 44) + b + c, owed, 60, "[0 0 30 0 0 0 0 0] 30 0 0"},
		{op('I', 3, 1, 0, 0) + b + c, owed, 60, "[0 0 30 0 0 0 0 0] 30 0 0"},
		{a + op('I', 0, 1, 0, 0) + b + c, owed, 60, "[10 0 30 0 0 0 0 0] 20 0 0"},
		{a + op('I', 0, 1, 0, 0) + b + c, owed, 9, "[9 0 0 0 0 0 0 0] 0 0 0"},
		{op('I', 0, 2) + b + op('J', 1) + a + c, owed, 60, "[0 20 30 0 0 0 0 0] 10 0 0"},
		{op('J', 1) + back + a, owed, 60, "[10 0 0 0 0 0 0 0] 50 0 0"},
		{op('J', 119) + strings.Repeat(a, 119), owed, 60, "[0 0 0 0 0 0 0 0] 60 0 0"},
		{op('J', 118) + strings.Repeat(a, 118) + b, owed, 60, "[0 20 0 0 0 0 0 0] 40 0 0"},
	})
}

func TestRunErrors(t *testing.T) {
	good := []int{1, 2, 3, 4, 5, 6, 7, 8}
	pay := op('P', 0)
	runRunCases(t, []runCase{
		{strings.Repeat(none, 120) + "R", good, 1, "[] 0 1 0"},
		{none + "x", good, 1, "[] 0 6 1"},
		{none + op('P', 8), good, 1, "[] 0 6 1"},
		{none + back, good, 1, "[] 0 7 1"},
		{hold, good, 1, "[] 0 7 1"},
		{pay, nil, 1, "[] 0 4 0"},
		{pay, []int{}, 1, "[] 0 4 0"},
		{pay, good[:7], 1, "[] 0 4 0"},
		{pay, append([]int{9}, good...), 1, "[] 0 4 0"},
		{pay, good, -1, "[] 0 5 8"},
		{pay, good, most + 1, "[] 0 5 8"},
		{pay, good, highest, "[] 0 5 8"},
		{pay, good, lowest, "[] 0 5 8"},
	})
	for i := range good {
		for _, number := range []int{-1, most + 1, lowest, highest} {
			owed := []int{1, 2, 3, 4, 5, 6, 7, 8}
			owed[i] = number
			runRunCases(t, []runCase{{pay, owed, 1, fmt.Sprintf("[] 0 5 %d", i)}})
		}
	}
}

func TestRunFirstError(t *testing.T) {
	bad := []int{1, 2, 3, -4, 5, 6, 7, most + 1}
	runRunCases(t, []runCase{
		{strings.Repeat("x", 601), bad[:7], -1, "[] 0 1 0"},
		{back + "x", bad[:7], -1, "[] 0 6 1"},
		{none + back, bad[:7], -1, "[] 0 7 1"},
		{none + back, bad, -1, "[] 0 7 1"},
		{none, bad[:7], -1, "[] 0 4 0"},
		{none, bad, -1, "[] 0 5 3"},
		{none, []int{1, 2, 3, 4, 5, 6, 7, most + 1}, -1, "[] 0 5 7"},
	})
}

func TestRunErrorsAreVerifyErrors(t *testing.T) {
	random := rand.New(rand.NewSource(9))
	for range 5000 {
		code := spoilCode(random, makeCode(random, random.Intn(10)))
		wantErrno, wantPlace := split.Verify(code)
		paid, rest, errno, place := split.Run(code, []int{1, 2, 3, 4, 5, 6, 7, 8}, 10)
		if errno != wantErrno || place != wantPlace {
			t.Fatalf("Run(%q) answers error %d %d, Verify %d %d", code, errno, place, wantErrno, wantPlace)
		}
		if errno != split.OK && (len(paid) != 0 || rest != 0) {
			t.Fatalf("Run(%q) answers %v %d beside an error", code, paid, rest)
		}
	}
}

func TestRunAgainstModel(t *testing.T) {
	random := rand.New(rand.NewSource(10))
	for i := range 40000 {
		code := makeCode(random, random.Intn(16))
		if i%50 == 0 {
			code = makeCode(random, random.Intn(121))
		}
		owed, money := makeAmounts(random)
		m := newModel(owed)
		rest := m.runCode(code, int64(money))
		want := fmt.Sprintf("%v %d 0 0", m.paid, rest)
		runRunCases(t, []runCase{{code, owed, money, want}})
	}
}

// P5 of Run: nothing is made or lost, whatever the code.
func TestNothingMadeOrLostByCode(t *testing.T) {
	random := rand.New(rand.NewSource(11))
	ran := 0
	for range 40000 {
		code := spoilCode(random, makeCode(random, random.Intn(30)))
		owed, money := makeAmounts(random)
		paid, rest, errno, _ := split.Run(code, owed, money)
		if errno != split.OK {
			continue
		}
		ran++
		checkNothingLost(t, code, owed, money, paid, rest)
	}
	if ran < 5000 {
		t.Errorf("only %d codes ran", ran)
	}
}
