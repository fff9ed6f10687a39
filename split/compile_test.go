package split_test

import (
	"fmt"
	"math/rand"
	"strings"
	"testing"

	"split/split"
)

// compile answers the code of a policy, which must hold.
func compile(t *testing.T, text string) string {
	t.Helper()
	code, errno, place := split.Compile(text)
	if errno != split.OK || place != 0 {
		t.Fatalf("Compile(%q) = %q %d %d", text, code, errno, place)
	}
	errno, place = split.Verify(code)
	if errno != split.OK || place != 0 {
		t.Fatalf("Compile(%q) = %q, of which Verify = %d %d", text, code, errno, place)
	}
	return code
}

// runsLikeShare holds the run of a policy's code against Share.
func runsLikeShare(t *testing.T, text string, owed []int, money int) {
	t.Helper()
	code := compile(t, text)
	paid, rest, errno, place := split.Share(text, owed, money)
	want := fmt.Sprintf("%v %d %d %d", paid, rest, errno, place)
	runRunCases(t, []runCase{{code, owed, money, want}})
}

// Policies whose code goes to an edge: numbers of one and two bytes, blocks
// without steps, many steps left out, the deepest block, the longest text.
func TestCompileEdges(t *testing.T) {
	random := rand.New(rand.NewSource(12))
	texts := []string{
		"", "Pa", "Ph", "PaH50(PbCc0100)Rbcd", "Rab", "Rgh", "Rah", "Rabcdefgh",
		"Ca0000", "Ca0001", "Ca0255", "Ca0256", "Ca0257", "Ch9999", "H01(Pa)Pb", "H99(Pa)Pb", "H50()", "Ia0000()()",
		"Ia0000(Pa)()Pb", "Ia0000()(Pa)Pb", "Ia0255(Pb)(Pc)", "Ia0256(Pb)(Pc)", "Ia0257(Pb)(Pc)", "Ih9999(Pa)(Pb)",
		"Ia0005(" + strings.Repeat("Pa", 55) + ")()",
		"Ia0005()(" + strings.Repeat("Pa", 55) + ")",
		strings.Repeat("Pa", 60),
		strings.Repeat("H50()", 24),
		strings.Repeat("H50(Pa)", 17),
		strings.Repeat("Ia0000()()", 12),
		nest(5, strings.Repeat("Rah", 31)+"Pa"),
		strings.Repeat("Ia0000(Pb)(", 5) + "PcPdPe" + strings.Repeat(")", 5),
		strings.Repeat("Ia0000(", 5) + "PcPd)(Pb)" + strings.Repeat(")(H50(Pb))", 3) + ")()",
	}
	for _, text := range texts {
		for range 200 {
			owed, money := makeAmounts(random)
			runsLikeShare(t, text, owed, money)
		}
		for _, amount := range []int{0, 1, 254, 255, 256, 257, 258, 9998, 9999, 10000, most} {
			owed := []int{amount, amount, amount, amount, amount, amount, amount, amount}
			runsLikeShare(t, text, owed, amount)
			runsLikeShare(t, text, owed, most)
			runsLikeShare(t, text, owed, 0)
		}
	}
}

// Every number that a step can hold.
func TestCompileEveryNumber(t *testing.T) {
	for number := range 10000 {
		owed := []int{number, number + 1, 5, 7, 20000, 0, 0, 0}
		text := fmt.Sprintf("Ia%04d(Pc)(Pd)Ib%04d(Pc)(Pd)Ce%04d", number, number, number)
		want := fmt.Sprintf("[0 0 5 7 %d 0 0 0] %d 0 0", number, 19988-number)
		runRunCases(t, []runCase{{compile(t, text), owed, 20000, want}})
	}
	for hundredths := 1; hundredths <= 99; hundredths++ {
		text := fmt.Sprintf("H%02d(Pa)", hundredths)
		want := fmt.Sprintf("[%d 0 0 0 0 0 0 0] %d 0 0", 10*hundredths, 1000-10*hundredths)
		runRunCases(t, []runCase{{compile(t, text), []int{most, 0, 0, 0, 0, 0, 0, 0}, 1000, want}})
	}
}

// Every set of two or more buckets, and every bucket.
func TestCompileEveryBucket(t *testing.T) {
	owed := []int{2, 3, 5, 7, 11, 13, 17, 19}
	for bits := range 256 {
		letters := ""
		for i := range 8 {
			if bits&(1<<i) != 0 {
				letters += string("abcdefgh"[i])
			}
		}
		if len(letters) < 2 {
			continue
		}
		runsLikeShare(t, "R"+letters, owed, 4)
		runsLikeShare(t, "R"+letters, owed, 100)
	}
	for _, letter := range "abcdefgh" {
		runsLikeShare(t, "P"+string(letter), owed, 100)
		runsLikeShare(t, "C"+string(letter)+"0002", owed, 100)
		runsLikeShare(t, "I"+string(letter)+"0010(Pa)(Pb)", owed, 100)
	}
}

func TestCompileAgainstModel(t *testing.T) {
	random := rand.New(rand.NewSource(13))
	tried := 0
	for range 60000 {
		policy := makePolicy(random, 5, 4)
		text := writePolicy(policy)
		if len(text) > 120 {
			continue
		}
		tried++
		code := compile(t, text)
		for range 3 {
			owed, money := makeAmounts(random)
			m := newModel(owed)
			rest := m.goThrough(policy, int64(money))
			want := fmt.Sprintf("%v %d 0 0", m.paid, rest)
			runRunCases(t, []runCase{{code, owed, money, want}})
		}
	}
	if tried < 20000 {
		t.Errorf("only %d policies were short enough", tried)
	}
}

func TestCompileErrors(t *testing.T) {
	for _, c := range []checkCase{
		{"Pi", split.ErrText, 1},
		{"H50(", split.ErrText, 4},
		{"PaE", split.ErrText, 2},
		{nest(6, "x"), split.ErrText, 24},
		{nest(6, ""), split.ErrDeep, 23},
		{strings.Repeat("Pa", 60) + "P", split.ErrLong, 0},
		{strings.Repeat("x", 121), split.ErrLong, 0},
	} {
		code, errno, place := split.Compile(c.text)
		if code != "" || errno != c.errno || place != c.place {
			t.Errorf("Compile(%q) = %q %d %d, want %d %d", c.text, code, errno, place, c.errno, c.place)
		}
	}
}

func TestCompileErrorsAreCheckErrors(t *testing.T) {
	random := rand.New(rand.NewSource(14))
	for range 5000 {
		text := spoil(random, writePolicy(makePolicy(random, 6, 2)))
		wantErrno, wantPlace := split.Check(text)
		code, errno, place := split.Compile(text)
		if errno != wantErrno || place != wantPlace {
			t.Fatalf("Compile(%q) answers error %d %d, Check %d %d", text, errno, place, wantErrno, wantPlace)
		}
		if errno != split.OK && code != "" {
			t.Fatalf("Compile(%q) answers %q beside an error", text, code)
		}
	}
}
