package split_test

import (
	"fmt"
	"math/rand"
	"slices"
	"strings"
	"testing"

	"split/split"
)

const (
	most    = 1000000000
	highest = int(^uint(0) >> 1)
	lowest  = -highest - 1
)

type shareCase struct {
	text  string
	owed  []int
	money int
	want  string
}

// runShareCases compares answers as text: what is paid, the rest, the error and
// its place.
func runShareCases(t *testing.T, cases []shareCase) {
	t.Helper()
	for _, c := range cases {
		paid, rest, errno, place := split.Share(c.text, c.owed, c.money)
		got := fmt.Sprintf("%v %d %d %d", paid, rest, errno, place)
		if got != c.want {
			t.Errorf("Share(%q, %v, %d) = %s, want %s", c.text, c.owed, c.money, got, c.want)
		}
	}
}

func TestSharePay(t *testing.T) {
	owed := []int{10, 20, 30, 0, 5, 5, 5, 1}
	runShareCases(t, []shareCase{
		{"", owed, 50, "[0 0 0 0 0 0 0 0] 50 0 0"},
		{"Pa", owed, 9, "[9 0 0 0 0 0 0 0] 0 0 0"},
		{"Pa", owed, 10, "[10 0 0 0 0 0 0 0] 0 0 0"},
		{"Pa", owed, 11, "[10 0 0 0 0 0 0 0] 1 0 0"},
		{"PhPd", owed, 11, "[0 0 0 0 0 0 0 1] 10 0 0"},
		{"PaPa", owed, 15, "[10 0 0 0 0 0 0 0] 5 0 0"},
		{"PbPa", owed, 25, "[5 20 0 0 0 0 0 0] 0 0 0"},
		{"Pa", []int{most, 0, 0, 0, 0, 0, 0, 0}, most, "[1000000000 0 0 0 0 0 0 0] 0 0 0"},
		{"Pb", []int{most, 0, 0, 0, 0, 0, 0, 0}, most, "[0 0 0 0 0 0 0 0] 1000000000 0 0"},
		{"Ph", []int{0, 0, 0, 0, 0, 0, 0, most}, most, "[0 0 0 0 0 0 0 1000000000] 0 0 0"},
	})
}

func TestShareCap(t *testing.T) {
	owed := []int{10, 20, 30, 0, 5, 5, 5, 10000}
	runShareCases(t, []shareCase{
		{"Ca0000", owed, 50, "[0 0 0 0 0 0 0 0] 50 0 0"},
		{"Ca0009", owed, 50, "[9 0 0 0 0 0 0 0] 41 0 0"},
		{"Ca0010", owed, 50, "[10 0 0 0 0 0 0 0] 40 0 0"},
		{"Ca0011", owed, 50, "[10 0 0 0 0 0 0 0] 40 0 0"},
		{"Ca0010", owed, 3, "[3 0 0 0 0 0 0 0] 0 0 0"},
		{"Ca0004Ca0004Ca0004", owed, 50, "[10 0 0 0 0 0 0 0] 40 0 0"},
		{"Ch1234", owed, 5000, "[0 0 0 0 0 0 0 1234] 3766 0 0"},
		{"Ch9999", owed, most, "[0 0 0 0 0 0 0 9999] 999990001 0 0"},
	})
}

func TestShareInProportion(t *testing.T) {
	runShareCases(t, []shareCase{
		{"Rab", []int{10, 20, 0, 0, 0, 0, 0, 0}, 29, "[10 19 0 0 0 0 0 0] 0 0 0"},
		{"Rab", []int{10, 20, 0, 0, 0, 0, 0, 0}, 30, "[10 20 0 0 0 0 0 0] 0 0 0"},
		{"Rab", []int{10, 20, 0, 0, 0, 0, 0, 0}, 31, "[10 20 0 0 0 0 0 0] 1 0 0"},
		{"Rab", []int{0, 0, 7, 0, 0, 0, 0, 0}, 9, "[0 0 0 0 0 0 0 0] 9 0 0"},
		{"Rab", []int{0, 0, 7, 0, 0, 0, 0, 0}, 0, "[0 0 0 0 0 0 0 0] 0 0 0"},
		{"Rbd", []int{9, 1, 9, 2, 9, 9, 9, 9}, 2, "[0 1 0 1 0 0 0 0] 0 0 0"},
		{"Rab", []int{0, 3, 0, 0, 0, 0, 0, 0}, 2, "[0 2 0 0 0 0 0 0] 0 0 0"},
		// 7/3 twice and 7/3: 2 each, and the one left over to a.
		{"Rabc", []int{5, 5, 5, 0, 0, 0, 0, 0}, 7, "[3 2 2 0 0 0 0 0] 0 0 0"},
		{"Rabc", []int{5, 5, 5, 0, 0, 0, 0, 0}, 8, "[3 3 2 0 0 0 0 0] 0 0 0"},
		{"Rdfgh", []int{0, 0, 0, 1, 0, 1, 1, 1}, 3, "[0 0 0 1 0 1 1 0] 0 0 0"},
		// 4/10, 12/10, 24/10: the greatest fractions are those of a and c.
		{"Rabc", []int{1, 3, 6, 0, 0, 0, 0, 0}, 4, "[1 1 2 0 0 0 0 0] 0 0 0"},
		// 3/10, 9/10, 18/10: those of b and c; a's is less.
		{"Rabc", []int{1, 3, 6, 0, 0, 0, 0, 0}, 3, "[0 1 2 0 0 0 0 0] 0 0 0"},
		// 2/9, 16/9: the greater fraction is that of the higher bucket.
		{"Rah", []int{1, 0, 0, 0, 0, 0, 0, 8}, 2, "[0 0 0 0 0 0 0 2] 0 0 0"},
		{"Rabcdefgh", []int{1, 1, 1, 1, 1, 1, 1, 1}, 7, "[1 1 1 1 1 1 1 0] 0 0 0"},
		{"Rabcdefgh", []int{1, 1, 1, 1, 1, 1, 1, 1}, 8, "[1 1 1 1 1 1 1 1] 0 0 0"},
		{"Rabcdefgh", []int{most, most, most, most, most, most, most, most}, most - 1,
			"[125000000 125000000 125000000 125000000 125000000 125000000 125000000 124999999] 0 0 0"},
		{"Rab", []int{most, 1, 0, 0, 0, 0, 0, 0}, most, "[999999999 1 0 0 0 0 0 0] 0 0 0"},
	})
}

// What an earlier step paid is owed no more when a later one pays in proportion.
func TestShareInProportionOfWhatIsStillOwed(t *testing.T) {
	runShareCases(t, []shareCase{
		{"Ca0010Rab", []int{20, 30, 0, 0, 0, 0, 0, 0}, 30, "[15 15 0 0 0 0 0 0] 0 0 0"},
		{"RabRab", []int{20, 30, 0, 0, 0, 0, 0, 0}, 60, "[20 30 0 0 0 0 0 0] 10 0 0"},
	})
}

func TestShareHundredths(t *testing.T) {
	owed := []int{10, 20, 30, 0, 5, 5, 5, most}
	runShareCases(t, []shareCase{
		{"H50()", owed, 19, "[0 0 0 0 0 0 0 0] 19 0 0"},
		{"H50(Ph)", owed, 1, "[0 0 0 0 0 0 0 0] 1 0 0"},
		{"H50(Ph)", owed, 19, "[0 0 0 0 0 0 0 9] 10 0 0"},
		{"H99(Ph)", owed, 101, "[0 0 0 0 0 0 0 99] 2 0 0"},
		{"H01(Ph)", owed, 199, "[0 0 0 0 0 0 0 1] 198 0 0"},
		{"H01(Ph)", owed, 200, "[0 0 0 0 0 0 0 2] 198 0 0"},
		{"H99(Ph)", owed, most, "[0 0 0 0 0 0 0 990000000] 10000000 0 0"},
		{"H99(Ph)", owed, most - 1, "[0 0 0 0 0 0 0 989999999] 10000000 0 0"},
		{"H50(Pa)Ph", owed, 100, "[10 0 0 0 0 0 0 90] 0 0 0"},
		{"H50(H50(Ph)Pb)Pc", owed, 80, "[0 20 30 0 0 0 0 20] 10 0 0"},
		{"H50(Ph)H50(Ph)", owed, 80, "[0 0 0 0 0 0 0 60] 20 0 0"},
		{nest(5, "Ph"), owed, 3200, "[0 0 0 0 0 0 0 100] 3100 0 0"},
	})
}

func TestShareIf(t *testing.T) {
	owed := []int{10, 20, 30, 0, 5, 5, 5, 10000}
	runShareCases(t, []shareCase{
		{"Ia0009(Pb)(Pc)Pa", owed, 5, "[0 5 0 0 0 0 0 0] 0 0 0"},
		{"Ia0010(Pb)(Pc)Pa", owed, 5, "[0 0 5 0 0 0 0 0] 0 0 0"},
		{"Ia0011(Pb)(Pc)Pa", owed, 5, "[0 0 5 0 0 0 0 0] 0 0 0"},
		{"Ia0009(Pb)(Pc)Pa", owed, 35, "[10 20 0 0 0 0 0 0] 5 0 0"},
		{"Ia0010(Pb)(Pc)Pa", owed, 45, "[10 0 30 0 0 0 0 0] 5 0 0"},
		{"Ia0000()(Pc)Pa", owed, 45, "[10 0 0 0 0 0 0 0] 35 0 0"},
		{"Id0000(Pb)()Pa", owed, 45, "[10 0 0 0 0 0 0 0] 35 0 0"},
		{"Ih9999(Pa)(Pb)", owed, 50, "[10 0 0 0 0 0 0 0] 40 0 0"},
		{"PhIh9999(Pa)(Pb)", owed, 10050, "[0 20 0 0 0 0 0 10000] 30 0 0"},
		{"Ia0000(Ib0020(Pc)(Pe))(Pf)Pa", owed, 50, "[10 0 0 0 5 0 0 0] 35 0 0"},
		{"Ia0000(H50(PbIb0000()(Pc)))(Pf)", owed, 50, "[0 20 5 0 0 0 0 0] 25 0 0"},
	})
}

func TestShareErrors(t *testing.T) {
	good := []int{1, 2, 3, 4, 5, 6, 7, 8}
	runShareCases(t, []shareCase{
		{"Pi", good, 1, "[] 0 2 1"},
		{"H50(", good, 1, "[] 0 2 4"},
		{nest(6, ""), good, 1, "[] 0 3 23"},
		{strings.Repeat("Pa", 60) + "P", good, 1, "[] 0 1 0"},
		{"Pa", nil, 1, "[] 0 4 0"},
		{"Pa", []int{}, 1, "[] 0 4 0"},
		{"Pa", good[:7], 1, "[] 0 4 0"},
		{"Pa", append([]int{9}, good...), 1, "[] 0 4 0"},
		{"Pa", make([]int, 1<<20), 1, "[] 0 4 0"},
		{"Pa", good, -1, "[] 0 5 8"},
		{"Pa", good, most + 1, "[] 0 5 8"},
		{"Pa", good, highest, "[] 0 5 8"},
		{"Pa", good, lowest, "[] 0 5 8"},
		{"", good, -1, "[] 0 5 8"},
	})
	for i := range good {
		for _, number := range []int{-1, most + 1, lowest, highest} {
			owed := slices.Clone(good)
			owed[i] = number
			runShareCases(t, []shareCase{{"Pa", owed, 1, fmt.Sprintf("[] 0 5 %d", i)}})
		}
	}
}

func TestShareEdgesOfAmounts(t *testing.T) {
	for i := range 8 {
		for _, number := range []int{0, most} {
			owed := []int{1, 2, 3, 4, 5, 6, 7, 8}
			owed[i] = number
			runShareCases(t, []shareCase{
				{"", owed, 0, "[0 0 0 0 0 0 0 0] 0 0 0"},
				{"", owed, most, "[0 0 0 0 0 0 0 0] 1000000000 0 0"},
			})
		}
	}
}

// Where several errors apply, the answer is the one that is named first.
func TestShareFirstError(t *testing.T) {
	long := strings.Repeat("x", 121)
	bad := []int{1, 2, 3, -4, 5, 6, 7, most + 1}
	runShareCases(t, []shareCase{
		{long, bad[:7], -1, "[] 0 1 0"},
		{nest(6, "x"), bad[:7], -1, "[] 0 2 24"},
		{nest(6, ""), bad[:7], -1, "[] 0 3 23"},
		{nest(6, ""), bad, -1, "[] 0 3 23"},
		{"Pa", bad[:7], -1, "[] 0 4 0"},
		{"Pa", append([]int{-1}, bad...), -1, "[] 0 4 0"},
		{"Pa", bad, -1, "[] 0 5 3"},
		{"Pa", []int{1, 2, 3, 4, 5, 6, 7, most + 1}, -1, "[] 0 5 7"},
	})
}

func TestShareErrorsAreCheckErrors(t *testing.T) {
	random := rand.New(rand.NewSource(2))
	owed := []int{1, 2, 3, 4, 5, 6, 7, 8}
	for range 3000 {
		text := spoil(random, writePolicy(makePolicy(random, 6, 2)))
		wantErrno, wantPlace := split.Check(text)
		paid, rest, errno, place := split.Share(text, owed, 10)
		if errno != wantErrno || place != wantPlace {
			t.Fatalf("Share(%q) answers error %d %d, Check %d %d", text, errno, place, wantErrno, wantPlace)
		}
		if errno != split.OK && (len(paid) != 0 || rest != 0) {
			t.Fatalf("Share(%q) answers %v %d beside an error", text, paid, rest)
		}
	}
}

// makeAmounts answers what is owed and a payment: small or great, often 0.
func makeAmounts(random *rand.Rand) ([]int, int) {
	bound := []int{3, 30, 300, 20000, most}[random.Intn(5)]
	owed := make([]int, 8)
	for i := range owed {
		if random.Intn(4) > 0 {
			owed[i] = random.Intn(bound + 1)
		}
	}
	payments := min(bound, most/8) * (1 + random.Intn(8))
	return owed, random.Intn(payments + 1)
}

func TestShareAgainstModel(t *testing.T) {
	random := rand.New(rand.NewSource(3))
	tried := 0
	for range 60000 {
		policy := makePolicy(random, 5, 4)
		text := writePolicy(policy)
		if len(text) > 120 {
			continue
		}
		tried++
		owed, money := makeAmounts(random)
		m := newModel(owed)
		rest := m.goThrough(policy, int64(money))
		want := fmt.Sprintf("%v %d 0 0", m.paid, rest)
		runShareCases(t, []shareCase{{text, owed, money, want}})
	}
	if tried < 20000 {
		t.Errorf("only %d policies were short enough", tried)
	}
}

// P5: nothing is made or lost.
func TestNothingMadeOrLost(t *testing.T) {
	random := rand.New(rand.NewSource(4))
	for range 40000 {
		text := writePolicy(makePolicy(random, 4, 5))
		owed, money := makeAmounts(random)
		paid, rest, errno, _ := split.Share(text, owed, money)
		if errno == split.ErrLong {
			continue
		}
		if errno != split.OK || len(paid) != 8 {
			t.Fatalf("Share(%q, %v, %d) = %v, error %d", text, owed, money, paid, errno)
		}
		checkNothingLost(t, text, owed, money, paid, rest)
	}
}

func checkNothingLost(t *testing.T, source string, owed []int, money int, paid []int, rest int) {
	t.Helper()
	sum := rest
	for i := range paid {
		if paid[i] < 0 || paid[i] > owed[i] {
			t.Errorf("%q, %v, %d: pays %d to bucket %d", source, owed, money, paid[i], i)
		}
		sum += paid[i]
	}
	if len(paid) != 8 || rest < 0 || sum != money {
		t.Errorf("%q, %v, %d: pays %v, rest %d, together %d", source, owed, money, paid, rest, sum)
	}
}
