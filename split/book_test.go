package split_test

import (
	"fmt"
	"math/rand"
	"slices"
	"strings"
	"testing"

	"split/split"
)

// act is a call of a book: O Owed, I Install, C Charge, P Pay, U Undo.
type act struct {
	op     byte
	text   string
	number int
}

func do(b *split.Book, a act) string {
	switch a.op {
	case 'I':
		errno, place := b.Install(a.text)
		return fmt.Sprint(errno, place)
	case 'C':
		return fmt.Sprint(b.Charge(a.text, a.number))
	case 'P':
		paid, rest, errno := b.Pay(a.number)
		return fmt.Sprint(paid, rest, errno)
	case 'U':
		return fmt.Sprint(b.Undo())
	}
	return fmt.Sprint(b.Owed())
}

type bookCase struct {
	act
	want string
}

func runBookCases(t *testing.T, b *split.Book, cases []bookCase) {
	t.Helper()
	for i, c := range cases {
		got := do(b, c.act)
		if got != c.want {
			t.Fatalf("call %d, %c %.200q %d: %s, want %s", i, c.op, c.text, c.number, got, c.want)
		}
	}
}

func owes(want string) bookCase { return bookCase{act{op: 'O'}, want} }

func install(text, want string) bookCase { return bookCase{act{'I', text, 0}, want} }

func charge(bucket string, amount int, want string) bookCase {
	return bookCase{act{'C', bucket, amount}, want}
}

func pay(money int, want string) bookCase { return bookCase{act{'P', "", money}, want} }

func undo(want string) bookCase { return bookCase{act{op: 'U'}, want} }

const nothing = "[0 0 0 0 0 0 0 0]"

func TestNewBook(t *testing.T) {
	runBookCases(t, split.New(), []bookCase{
		owes(nothing), undo("10"), pay(5, nothing+" 5 0"), undo("0"), undo("10"), owes(nothing),
	})
}

func TestCharge(t *testing.T) {
	b := split.New()
	runBookCases(t, b, []bookCase{
		charge("a", 1, "0"), charge("b", 2, "0"), charge("c", 3, "0"), charge("d", 4, "0"),
		charge("e", 5, "0"), charge("f", 6, "0"), charge("g", 7, "0"), charge("h", 8, "0"),
		owes("[1 2 3 4 5 6 7 8]"),
		charge("d", 10, "0"), charge("d", 0, "0"), owes("[1 2 3 14 5 6 7 8]"),
	})
}

func TestChargeNoBucket(t *testing.T) {
	b := split.New()
	for _, bucket := range []string{
		"", "i", "`", "A", "H", "0", " ", "\x00", "\xff", "aa", "ab", "a ", " a", "a\x00", "á", "Pa",
		strings.Repeat("a", 1<<20),
	} {
		for _, amount := range []int{0, 1, -1, most + 1, highest, lowest} {
			runBookCases(t, b, []bookCase{charge(bucket, amount, "8")})
		}
	}
	runBookCases(t, b, []bookCase{owes(nothing), undo("10")})
}

func TestChargeRangeAndFull(t *testing.T) {
	runBookCases(t, split.New(), []bookCase{
		charge("a", -1, "5"), charge("a", most+1, "5"), charge("a", highest, "5"), charge("a", lowest, "5"),
		owes(nothing), undo("10"),
		charge("a", most, "0"), charge("a", 0, "0"), charge("a", 1, "9"), charge("a", most, "9"),
		// The error that is named first is the answer.
		charge("a", most+1, "5"), charge("a", highest, "5"), charge("a", -1, "5"),
		// Another bucket's room is its own.
		charge("b", most-1, "0"), charge("b", 2, "9"), charge("b", 1, "0"), charge("b", 1, "9"),
		charge("h", 1, "0"), charge("h", most, "9"), charge("h", most-1, "0"),
		owes("[1000000000 1000000000 0 0 0 0 0 1000000000]"),
		// What is paid makes room again.
		install("Pb", "0 0"), pay(3, "[0 3 0 0 0 0 0 0] 0 0"), charge("b", 4, "9"), charge("b", 3, "0"),
		owes("[1000000000 1000000000 0 0 0 0 0 1000000000]"),
	})
}

func TestInstall(t *testing.T) {
	runBookCases(t, split.New(), []bookCase{
		charge("a", 10, "0"), charge("b", 10, "0"),
		pay(1, nothing+" 1 0"),
		install("Pa", "0 0"), pay(1, "[1 0 0 0 0 0 0 0] 0 0"),
		install("Pb", "0 0"), pay(1, "[0 1 0 0 0 0 0 0] 0 0"),
		install("", "0 0"), pay(1, nothing+" 1 0"),
		install(strings.Repeat("Pa", 60), "0 0"), pay(1, "[1 0 0 0 0 0 0 0] 0 0"),
		owes("[8 9 0 0 0 0 0 0]"),
	})
}

func TestInstallErrors(t *testing.T) {
	b := split.New()
	runBookCases(t, b, []bookCase{
		charge("a", 10, "0"), install("Pa", "0 0"),
		install(strings.Repeat("Pb", 60)+"P", "1 0"),
		install(strings.Repeat("x", 121), "1 0"),
		install("Pi", "2 1"), install("PbP", "2 3"), install("Pb)", "2 2"), install("\xff", "2 0"),
		install("H50(H50(H50(H50(H50(H50()))))))", "2 30"),
		install("H50(H50(H50(H50(H50(H50(Pb))))))", "3 23"),
		pay(2, "[2 0 0 0 0 0 0 0] 0 0"), undo("0"), undo("0"),
		pay(2, nothing+" 2 0"), undo("0"), undo("0"), undo("10"),
	})
}

// P1, P11: at any text Install answers what Check does.
func TestInstallErrorsAreCheckErrors(t *testing.T) {
	random := rand.New(rand.NewSource(22))
	b := split.New()
	for range 20000 {
		text := anyText(random)
		errno, place := split.Check(text)
		runBookCases(t, b, []bookCase{install(text, fmt.Sprint(errno, place))})
	}
}

func TestPay(t *testing.T) {
	runBookCases(t, split.New(), []bookCase{
		charge("a", 10, "0"), charge("b", 20, "0"), charge("c", 30, "0"), charge("e", 5, "0"),
		install("PaH50(PbCc0100)Rbcd", "0 0"),
		pay(-1, "[] 0 5"), pay(most+1, "[] 0 5"), pay(highest, "[] 0 5"), pay(lowest, "[] 0 5"),
		owes("[10 20 30 0 5 0 0 0]"),
		pay(0, nothing+" 0 0"),
		pay(55, "[10 20 25 0 0 0 0 0] 0 0"), owes("[0 0 5 0 5 0 0 0]"),
		pay(most, "[0 0 5 0 0 0 0 0] 999999995 0"), owes("[0 0 0 0 5 0 0 0]"),
		pay(most, nothing+" 1000000000 0"), owes("[0 0 0 0 5 0 0 0]"),
	})
	runBookCases(t, split.New(), []bookCase{
		charge("g", most, "0"), charge("h", most, "0"), install("Rgh", "0 0"),
		pay(most, "[0 0 0 0 0 0 500000000 500000000] 0 0"),
		pay(most-1, "[0 0 0 0 0 0 500000000 499999999] 0 0"),
		owes("[0 0 0 0 0 0 0 1]"),
	})
}

func TestUndoEach(t *testing.T) {
	runBookCases(t, split.New(), []bookCase{
		charge("a", 10, "0"), install("Pa", "0 0"), charge("b", 5, "0"), pay(4, "[4 0 0 0 0 0 0 0] 0 0"),
		install("Pb", "0 0"), pay(9, "[0 5 0 0 0 0 0 0] 4 0"),
		owes("[6 0 0 0 0 0 0 0]"),
		undo("0"), owes("[6 5 0 0 0 0 0 0]"),
		undo("0"), owes("[6 5 0 0 0 0 0 0]"), pay(1, "[1 0 0 0 0 0 0 0] 0 0"), undo("0"),
		undo("0"), owes("[10 5 0 0 0 0 0 0]"),
		undo("0"), owes("[10 0 0 0 0 0 0 0]"),
		undo("0"), pay(7, nothing+" 7 0"), undo("0"),
		undo("0"), owes(nothing),
		undo("10"), undo("10"), owes(nothing),
	})
}

// P12: an operation that is answered OK counts, though nothing looks different
// behind it.
func TestUndoWhatChangedNothing(t *testing.T) {
	runBookCases(t, split.New(), []bookCase{
		charge("a", 3, "0"), charge("a", 0, "0"), install("", "0 0"), pay(0, nothing+" 0 0"), pay(9, nothing+" 9 0"),
		undo("0"), undo("0"), undo("0"), undo("0"), owes("[3 0 0 0 0 0 0 0]"),
		undo("0"), owes(nothing), undo("10"),
	})
}

// P12, P13: what was answered with an error is not there to be taken back.
func TestUndoPassesErrors(t *testing.T) {
	runBookCases(t, split.New(), []bookCase{
		charge("a", most, "0"), install("Ca0007", "0 0"),
		charge("a", 1, "9"), charge("x", 1, "8"), charge("b", -1, "5"), install("x", "2 0"), pay(-1, "[] 0 5"),
		undo("0"), pay(9, nothing+" 9 0"), undo("0"),
		owes("[1000000000 0 0 0 0 0 0 0]"), undo("0"), owes(nothing), undo("10"),
	})
}

// chargeMany charges a by 1, 2, 4 and so on, so that what is owed tells which
// operations stand.
func chargeMany(count int) []bookCase {
	cases := []bookCase{}
	for i := range count {
		cases = append(cases, charge("a", 1<<i, "0"))
	}
	return cases
}

func undoMany(count int) []bookCase {
	return slices.Repeat([]bookCase{undo("0")}, count)
}

func TestUndoRemembersTwelve(t *testing.T) {
	for _, c := range []struct{ count, taken int }{
		{0, 0}, {1, 1}, {11, 11}, {12, 12}, {13, 12}, {14, 12}, {24, 12}, {25, 12}, {29, 12},
	} {
		b := split.New()
		runBookCases(t, b, chargeMany(c.count))
		for i := range c.taken {
			runBookCases(t, b, []bookCase{undo("0"), owes(fmt.Sprintf("[%d 0 0 0 0 0 0 0]", 1<<(c.count-i-1)-1))})
		}
		left := fmt.Sprintf("[%d 0 0 0 0 0 0 0]", 1<<(c.count-c.taken)-1)
		runBookCases(t, b, []bookCase{undo("10"), owes(left), undo("10"), owes(left)})
	}
}

// P12: taking operations back does not make the first of thirteen remembered
// again; and new operations are remembered behind those that are left.
func TestUndoForgetsForGood(t *testing.T) {
	b := split.New()
	runBookCases(t, b, chargeMany(13))
	runBookCases(t, b, undoMany(5))
	runBookCases(t, b, []bookCase{owes("[255 0 0 0 0 0 0 0]"), charge("b", 1, "0"), charge("b", 2, "0")})
	runBookCases(t, b, undoMany(9))
	runBookCases(t, b, []bookCase{owes("[1 0 0 0 0 0 0 0]"), undo("10"), charge("c", 1, "0")})
	runBookCases(t, b, []bookCase{undo("0"), undo("10"), owes("[1 0 0 0 0 0 0 0]")})
}

// P13: neither errors nor Owed push what is remembered out.
func TestErrorsAndOwedAreNotRemembered(t *testing.T) {
	b := split.New()
	runBookCases(t, b, chargeMany(12))
	for range 20 {
		runBookCases(t, b, []bookCase{
			owes("[4095 0 0 0 0 0 0 0]"), charge("a", most, "9"), charge("a", -1, "5"), charge("", 1, "8"),
			install("x", "2 0"), pay(-1, "[] 0 5"),
		})
	}
	runBookCases(t, b, undoMany(12))
	runBookCases(t, b, []bookCase{owes(nothing), undo("10")})
}

// P2, P10: what is done to an answered list changes neither the book nor what it
// remembers, nor other answers.
func TestBookListsAreTheCallers(t *testing.T) {
	b := split.New()
	runBookCases(t, b, []bookCase{charge("a", 10, "0"), charge("b", 5, "0"), install("PaPb", "0 0")})
	first := b.Owed()
	second := b.Owed()
	paid, _, _ := b.Pay(12)
	for i := range first {
		first[i] = 77
		paid[i] = 88
	}
	if got := fmt.Sprint(second); got != "[10 5 0 0 0 0 0 0]" {
		t.Errorf("an earlier answer became %s", got)
	}
	runBookCases(t, b, []bookCase{
		owes("[0 3 0 0 0 0 0 0]"), pay(12, "[0 3 0 0 0 0 0 0] 9 0"), undo("0"), undo("0"), owes("[10 5 0 0 0 0 0 0]"),
	})
	if first[0] != 77 || paid[0] != 88 {
		t.Errorf("the book changed lists of the caller: %v %v", first, paid)
	}
}

// P1: texts that are far too long are refused by their length.
func TestBookLongTextsTakeNoWork(t *testing.T) {
	b := split.New()
	text := strings.Repeat("Pa", 1<<24)
	for range 1000000 {
		errno, place := b.Install(text)
		if errno != split.ErrLong || place != 0 {
			t.Fatalf("Install of a long text = %d %d", errno, place)
		}
		errno = b.Charge(text, 1)
		if errno != split.ErrBucket {
			t.Fatalf("Charge of a long text = %d", errno)
		}
	}
}

// ledger is a book by the document's words: it keeps every operation, and counts
// how many of the last ones are remembered.
type ledger struct {
	pages []ledgerPage // the last one is the book as it stands
	kept  int
}

type ledgerPage struct {
	owed   [8]int
	policy []node
}

func (l *ledger) now() ledgerPage { return l.pages[len(l.pages)-1] }

func (l *ledger) turn(p ledgerPage) {
	l.pages = append(l.pages, p)
	l.kept = min(l.kept+1, 12)
}

func (l *ledger) charge(bucket string, amount int) string {
	number := strings.Index("abcdefgh", bucket)
	p := l.now()
	switch {
	case len(bucket) != 1 || number < 0:
		return "8"
	case amount < 0 || amount > most:
		return "5"
	case p.owed[number]+amount > most:
		return "9"
	}
	p.owed[number] += amount
	l.turn(p)
	return "0"
}

func (l *ledger) pay(money int) string {
	if money < 0 || money > most {
		return "[] 0 5"
	}
	p := l.now()
	m := newModel(p.owed[:])
	rest := m.goThrough(p.policy, int64(money))
	for i := range p.owed {
		p.owed[i] = int(m.owed[i])
	}
	l.turn(p)
	return fmt.Sprint(m.paid, rest, 0)
}

func (l *ledger) undo() string {
	if l.kept == 0 {
		return "10"
	}
	l.kept--
	l.pages = l.pages[:len(l.pages)-1]
	return "0"
}

// makeAct makes up a call and answers what it must answer.
func (l *ledger) makeAct(random *rand.Rand) (act, string) {
	numbers := []int{0, 1, -1, most, most + 1, highest, lowest, random.Intn(100), random.Intn(10000), random.Intn(most)}
	number := numbers[random.Intn(len(numbers))]
	switch random.Intn(9) {
	case 0:
		policy := makePolicy(random, 3, 3)
		text := writePolicy(policy)
		if len(text) > 120 {
			return act{'I', text, 0}, "1 0"
		}
		p := l.now()
		p.policy = policy
		l.turn(p)
		return act{'I', text, 0}, "0 0"
	case 1, 2, 3:
		bucket := string("abcdefgh"[random.Intn(8)])
		if random.Intn(10) == 0 {
			bucket = []string{"", "i", "A", "ab", "a\x00", "\xff"}[random.Intn(6)]
		}
		return act{'C', bucket, number}, l.charge(bucket, number)
	case 4, 5:
		return act{'P', "", number}, l.pay(number)
	case 6:
		return act{'I', "Pa(", 0}, "2 2"
	case 7:
		return act{op: 'O'}, fmt.Sprint(l.now().owed)
	}
	return act{op: 'U'}, l.undo()
}

// P10 to P13: three books at a time, each against its own ledger, through calls
// of every kind, at times many ways back in a row.
func TestBooksAgainstLedgers(t *testing.T) {
	random := rand.New(rand.NewSource(21))
	for round := range 200 {
		books := []*split.Book{split.New(), split.New(), split.New()}
		ledgers := []*ledger{}
		for range books {
			ledgers = append(ledgers, &ledger{pages: []ledgerPage{{}}})
		}
		for range 600 {
			i := random.Intn(len(books))
			a, want := ledgers[i].makeAct(random)
			checkAct(t, round, books[i], a, want)
			for range waysBack(random) {
				checkAct(t, round, books[i], act{op: 'U'}, ledgers[i].undo())
			}
			checkAct(t, round, books[i], act{op: 'O'}, fmt.Sprint(ledgers[i].now().owed))
		}
	}
}

// waysBack answers how many ways back to take at once: mostly none.
func waysBack(random *rand.Rand) int {
	if random.Intn(30) > 0 {
		return 0
	}
	return random.Intn(15)
}

func checkAct(t *testing.T, round int, b *split.Book, a act, want string) {
	t.Helper()
	got := do(b, a)
	if got != want {
		t.Fatalf("round %d, %c %q %d: %s, want %s", round, a.op, a.text, a.number, got, want)
	}
}
