package split_test

import (
	"fmt"
	"math/rand"
	"slices"
	"strings"
	"testing"

	"split/split"
)

// P1: calls end without a panic at any bytes, lists and numbers, and beside an
// error stands nothing but its place.
func TestAnyArguments(t *testing.T) {
	random := rand.New(rand.NewSource(5))
	numbers := []int{0, 1, -1, 99, most, most + 1, -most, highest, lowest}
	for range 30000 {
		text := anyText(random)
		owed := make([]int, random.Intn(11))
		for i := range owed {
			owed[i] = numbers[random.Intn(len(numbers))]
		}
		errno, place := split.Check(text)
		if place < 0 || place > len(text) || (errno == split.OK && place != 0) {
			t.Fatalf("Check(%q) = %d %d", text, errno, place)
		}
		paid, rest, errno, place := split.Share(text, owed, numbers[random.Intn(len(numbers))])
		if errno != split.OK && (len(paid) != 0 || rest != 0) {
			t.Fatalf("Share(%q, %v) = %v %d beside error %d", text, owed, paid, rest, errno)
		}
		if errno == split.OK && (len(paid) != 8 || place != 0) {
			t.Fatalf("Share(%q, %v) = %v, place %d", text, owed, paid, place)
		}
		code, errno, place := split.Compile(text)
		if (errno != split.OK && code != "") || (errno == split.OK && place != 0) {
			t.Fatalf("Compile(%q) = %q %d %d", text, code, errno, place)
		}
	}
}

// P1, of code.
func TestAnyCode(t *testing.T) {
	random := rand.New(rand.NewSource(15))
	numbers := []int{0, 1, -1, 99, most, most + 1, -most, highest, lowest}
	for range 30000 {
		code := anyCode(random)
		owed := make([]int, random.Intn(11))
		for i := range owed {
			owed[i] = numbers[random.Intn(len(numbers))]
		}
		errno, place := split.Verify(code)
		if place < 0 || place > len(code)/5 || (errno == split.OK && place != 0) {
			t.Fatalf("Verify(%q) = %d %d", code, errno, place)
		}
		paid, rest, errno, place := split.Run(code, owed, numbers[random.Intn(len(numbers))])
		if errno != split.OK && (len(paid) != 0 || rest != 0) {
			t.Fatalf("Run(%q, %v) = %v %d beside error %d", code, owed, paid, rest, errno)
		}
		if errno == split.OK && (len(paid) != 8 || place != 0) {
			t.Fatalf("Run(%q, %v) = %v, place %d", code, owed, paid, place)
		}
	}
}

// anyCode answers bytes of any kind, a text, instructions of any kind, or code
// that holds.
func anyCode(random *rand.Rand) string {
	switch random.Intn(4) {
	case 0:
		return makeCode(random, random.Intn(30))
	case 1:
		return anyText(random)
	case 2:
		code := make([]byte, random.Intn(700))
		random.Read(code)
		return string(code)
	}
	code := ""
	for range random.Intn(8) {
		code += op("PCRHEJI"[random.Intn(7)], byte(random.Intn(10)), byte(random.Intn(10)), anyByte(random))
	}
	return code
}

// anyText answers bytes of any kind, bytes as they stand in policies, or a policy.
func anyText(random *rand.Rand) string {
	const letters = "PCRHIabcdefgh0123456789()"
	switch random.Intn(3) {
	case 0:
		return writePolicy(makePolicy(random, 3, 3))
	case 1:
		text := make([]byte, random.Intn(130))
		random.Read(text)
		return string(text)
	}
	text := make([]byte, random.Intn(12))
	for i := range text {
		text[i] = letters[random.Intn(len(letters))]
	}
	return string(text)
}

// P1: a text that is far too long is refused by its length alone, so that a
// great many such calls take no time.
func TestLongTextsTakeNoWork(t *testing.T) {
	text := strings.Repeat("Pa", 1<<24)
	for range 1000000 {
		errno, place := split.Check(text)
		if errno != split.ErrLong || place != 0 {
			t.Fatalf("Check of a long text = %d %d", errno, place)
		}
	}
	runShareCases(t, []shareCase{{text, nil, -1, "[] 0 1 0"}})
	for range 1000000 {
		code, errno, place := split.Compile(text)
		if code != "" || errno != split.ErrLong || place != 0 {
			t.Fatalf("Compile of a long text = %q %d %d", code, errno, place)
		}
	}
}

func TestLongCodeTakesNoWork(t *testing.T) {
	code := strings.Repeat(none, 1<<22)
	for range 1000000 {
		errno, place := split.Verify(code)
		if errno != split.ErrLong || place != 0 {
			t.Fatalf("Verify of long code = %d %d", errno, place)
		}
	}
	runRunCases(t, []runCase{{code, nil, -1, "[] 0 1 0"}})
}

// P2: answers depend on the arguments alone.
func TestSameAnswersAgain(t *testing.T) {
	random := rand.New(rand.NewSource(6))
	type call struct {
		text  string
		code  string
		owed  []int
		money int
	}
	calls := []call{}
	answers := []string{}
	for range 500 {
		owed, money := makeAmounts(random)
		text := spoil(random, writePolicy(makePolicy(random, 3, 3)))
		c := call{text, anyCode(random), owed, money}
		calls = append(calls, c)
		answers = append(answers, answersOf(c.text, c.code, c.owed, c.money))
	}
	for i := len(calls) - 1; i >= 0; i-- {
		c := calls[i]
		again := answersOf(c.text, c.code, c.owed, c.money)
		if again != answers[i] {
			t.Errorf("%q, %q, %v, %d: first %s, later %s", c.text, c.code, c.owed, c.money, answers[i], again)
		}
	}
}

func answersOf(text, code string, owed []int, money int) string {
	errno, place := split.Check(text)
	answers := fmt.Sprintln(errno, place)
	paid, rest, errno, place := split.Share(text, owed, money)
	answers += fmt.Sprintln(paid, rest, errno, place)
	compiled, errno, place := split.Compile(text)
	answers += fmt.Sprintf("%q %d %d\n", compiled, errno, place)
	errno, place = split.Verify(code)
	answers += fmt.Sprintln(errno, place)
	paid, rest, errno, place = split.Run(code, owed, money)
	return answers + fmt.Sprintln(paid, rest, errno, place)
}

// P2: a list that is handed in is not changed.
func TestOwedIsNotChanged(t *testing.T) {
	random := rand.New(rand.NewSource(7))
	for range 2000 {
		room := make([]int, 12)
		for i := range room {
			room[i] = random.Intn(50) - 1
		}
		owed := room[2 : 2+7+random.Intn(3)]
		before := slices.Clone(room)
		text := writePolicy(makePolicy(random, 3, 3))
		split.Share(text, owed, random.Intn(200))
		if !slices.Equal(room, before) {
			t.Fatalf("Share(%q) changed %v to %v", text, before, room)
		}
		code := makeCode(random, random.Intn(10))
		split.Run(code, owed, random.Intn(200))
		if !slices.Equal(room, before) {
			t.Fatalf("Run(%q) changed %v to %v", code, before, room)
		}
	}
}

// P2: a list that is answered is the caller's.
func TestPaidIsTheCallers(t *testing.T) {
	for _, text := range []string{"", "Pa", "Rabcdefgh"} {
		share := func(owed []int) []int {
			paid, _, _, _ := split.Share(text, owed, 36)
			return paid
		}
		checkCallersList(t, text, share)
		code := compile(t, text)
		run := func(owed []int) []int {
			paid, _, _, _ := split.Run(code, owed, 36)
			return paid
		}
		checkCallersList(t, code, run)
	}
}

func checkCallersList(t *testing.T, source string, answer func(owed []int) []int) {
	t.Helper()
	owed := []int{1, 2, 3, 4, 5, 6, 7, 8}
	first := answer(owed)
	want := slices.Clone(first)
	second := answer(owed)
	for i := range first {
		first[i] = -1
	}
	third := answer(owed)
	if !slices.Equal(second, want) || !slices.Equal(third, want) {
		t.Errorf("%q: %v and %v, want %v", source, second, third, want)
	}
	if !slices.Equal(owed, []int{1, 2, 3, 4, 5, 6, 7, 8}) {
		t.Errorf("%q: the answer shares memory with what is owed", source)
	}
	owed[0] = 9
	if !slices.Equal(second, want) {
		t.Errorf("%q: what is owed shares memory with the answer", source)
	}
}
