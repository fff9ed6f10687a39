package split_test

import (
	"math/rand"
	"regexp"
	"strings"
	"testing"

	"split/split"
)

type checkCase struct {
	text  string
	errno split.Errno
	place int
}

func runCheckCases(t *testing.T, cases []checkCase) {
	t.Helper()
	for _, c := range cases {
		errno, place := split.Check(c.text)
		if errno != c.errno || place != c.place {
			t.Errorf("Check(%q) = %d %d, want %d %d", c.text, errno, place, c.errno, c.place)
		}
	}
}

func TestErrnoNumbers(t *testing.T) {
	all := []split.Errno{
		split.OK, split.ErrLong, split.ErrText, split.ErrDeep, split.ErrCount, split.ErrRange,
		split.ErrCode, split.ErrHeld, split.ErrBucket, split.ErrFull, split.ErrNone,
	}
	for i, errno := range all {
		if int(errno) != i {
			t.Errorf("error number %d is %d", i, errno)
		}
	}
}

func TestCheckPolicies(t *testing.T) {
	for _, text := range []string{
		"", "Pa", "Ph", "Ca0000", "Ch9999", "Rab", "Rah", "Rgh", "Racegh", "Rabcdefgh",
		"H01()", "H10()", "H99()", "H50(PaPb)Pc", "Ia0000()()", "Ih9999(Pa)(Pb)Pc",
		"Ia0000(H50(Pa))(Ib0000()())", "RabRab", "RabCa0001", "PaH50(PbCc0100)Rbcd",
	} {
		runCheckCases(t, []checkCase{{text, split.OK, 0}})
	}
}

func TestCheckNoPolicy(t *testing.T) {
	runCheckCases(t, []checkCase{
		{"a", split.ErrText, 0},
		{"E", split.ErrText, 0},
		{"J", split.ErrText, 0},
		{" Pa", split.ErrText, 0},
		{"Pa\n", split.ErrText, 2},
		{"Pa\x00", split.ErrText, 2},
		{"P`", split.ErrText, 1},
		{"Pi", split.ErrText, 1},
		{"P\xc3\xa1", split.ErrText, 1},
		{"\xff", split.ErrText, 0},
		{"Pab", split.ErrText, 2},
		{"Ca-001", split.ErrText, 2},
		{"Ca/000", split.ErrText, 2},
		{"Ca:000", split.ErrText, 2},
		{"Ca0:00", split.ErrText, 3},
		{"Ca00001", split.ErrText, 6},
		{"Ci0000", split.ErrText, 1},
		{"Rh", split.ErrText, 1},
		{"Rhh", split.ErrText, 1},
		{"R(", split.ErrText, 1},
		{"Ra", split.ErrText, 2},
		{"Rg", split.ErrText, 2},
		{"Rgg", split.ErrText, 2},
		{"RaPa", split.ErrText, 2},
		{"Rahh", split.ErrText, 3},
		{"Raba", split.ErrText, 3},
		{"Racb", split.ErrText, 3},
		{"Rabcdefghh", split.ErrText, 9},
		{"H00(Pa)", split.ErrText, 2},
		{"H5(Pa)", split.ErrText, 2},
		{"H500(Pa)", split.ErrText, 3},
		{"H50Pa", split.ErrText, 3},
		{"H50)", split.ErrText, 3},
		{"H50(a)", split.ErrText, 4},
		{"H50()()", split.ErrText, 5},
		{"Ii0000()()", split.ErrText, 1},
		{"Ia000()()", split.ErrText, 5},
		{"Ia0000()Pa", split.ErrText, 8},
		{"Ia0000())", split.ErrText, 8},
		{"Ia0000()())", split.ErrText, 10},
		{"Ia0000()()()", split.ErrText, 10},
		{"Pa)", split.ErrText, 2},
		{"Pa(", split.ErrText, 2},
	})
}

// Every text that is cut off from a policy is a policy or wants more bytes.
func TestCheckCutOff(t *testing.T) {
	text := "PaCb0120RacfH05(PbH90(Rgh)Ic0007(Pd)(H10()Pe))Ia0000()(Ch9999)Pa"
	whole := wholeSteps(text)
	for i := 0; i <= len(text); i++ {
		want := checkCase{text[:i], split.ErrText, i}
		if whole[i] {
			want = checkCase{text[:i], split.OK, 0}
		}
		runCheckCases(t, []checkCase{want})
	}
}

// wholeSteps tells by the regular expressions below at which places the text
// may be cut so that it is still a policy.
func wholeSteps(text string) []bool {
	whole := make([]bool, len(text)+1)
	for i := range whole {
		whole[i] = isPolicy(text[:i])
	}
	return whole
}

func TestCheckLength(t *testing.T) {
	full := strings.Repeat("Pa", 60)
	runCheckCases(t, []checkCase{
		{full, split.OK, 0},
		{full[:119], split.ErrText, 119},
		{full[:118] + "P", split.ErrText, 119},
		{full[:117] + "Rab", split.ErrText, 117},
		{full[:116] + "H50(", split.ErrText, 120},
		{full[:118] + "Ra", split.ErrText, 120},
		{full + "P", split.ErrLong, 0},
		{full + "Pa", split.ErrLong, 0},
		{strings.Repeat("x", 120), split.ErrText, 0},
		{strings.Repeat("x", 121), split.ErrLong, 0},
		{strings.Repeat("H50(", 31), split.ErrLong, 0},
		{strings.Repeat("\x00", 1<<20), split.ErrLong, 0},
	})
}

// nest lays so many blocks one in another.
func nest(depth int, inner string) string {
	return strings.Repeat("H50(", depth) + inner + strings.Repeat(")", depth)
}

func TestCheckDepth(t *testing.T) {
	long := nest(24, "")
	runCheckCases(t, []checkCase{
		{nest(4, "Pa"), split.OK, 0},
		{nest(5, "Pa"), split.OK, 0},
		{nest(6, "Pa"), split.ErrDeep, 23},
		{nest(7, "Pa"), split.ErrDeep, 23},
		{long, split.ErrDeep, 23},
		{nest(5, "") + nest(5, ""), split.OK, 0},
		{nest(5, "") + nest(6, ""), split.ErrDeep, 25 + 23},
		{nest(6, "") + nest(7, ""), split.ErrDeep, 23},
		{nest(4, "H50()H50()"), split.OK, 0},
		{nest(4, "Ia0000()()"), split.OK, 0},
		{nest(5, "Ia0000()()"), split.ErrDeep, 26},
		{nest(4, "Ia0000()(H50())"), split.ErrDeep, 16 + 12},
		{nest(4, "Ia0000(H50())()"), split.ErrDeep, 16 + 10},
		{"Ia0000(" + nest(4, "") + ")(" + nest(4, "") + ")", split.OK, 0},
		{"Ia0000(" + nest(5, "") + ")()", split.ErrDeep, 7 + 19},
		{"Ia0000()(" + nest(5, "") + ")", split.ErrDeep, 9 + 19},
	})
}

// A text that is no policy is told so, even where a block too many stands ahead.
func TestCheckTextAheadOfDepth(t *testing.T) {
	runCheckCases(t, []checkCase{
		{nest(6, "x"), split.ErrText, 24},
		{nest(6, "") + ")", split.ErrText, 30},
		{nest(6, "")[:29], split.ErrText, 29},
		{strings.Repeat("H50(", 30), split.ErrText, 120},
		{nest(6, "Pa") + "Pi", split.ErrText, 33},
	})
}

// What follows says anew, by regular expressions, what a policy is, to hold
// Check against it.

var (
	plainStep = regexp.MustCompile(`P[a-h]|C[a-h][0-9]{4}|H(?:0[1-9]|[1-9][0-9])\(\.*\)|I[a-h][0-9]{4}\(\.*\)\(\.*\)|` + risingPattern())
	onlyDots  = regexp.MustCompile(`^\.*$`)
)

func risingPattern() string {
	var first []string
	for f := 'a'; f <= 'g'; f++ {
		for s := f + 1; s <= 'h'; s++ {
			rest := ""
			for l := s + 1; l <= 'h'; l++ {
				rest += string(l) + "?"
			}
			first = append(first, "R"+string(f)+string(s)+rest)
		}
	}
	return strings.Join(first, "|")
}

// isPolicy puts a dot in the place of every step whose blocks hold but dots.
func isPolicy(text string) bool {
	if strings.Contains(text, ".") {
		return false
	}
	for {
		less := plainStep.ReplaceAllString(text, ".")
		if less == text {
			return onlyDots.MatchString(text)
		}
		text = less
	}
}

// These end any step that has begun.
var endings = []string{
	"", "a", "b", "c", "d", "e", "f", "g", "h", "ab",
	"a0000", "0000", "000", "00", "0",
	"01()", "1()", "()", "a0000()()", "0000()()", "000()()", "00()()", "0()()", "()()",
}

// canGoOn tells whether some policy begins with the text.
func canGoOn(text string) bool {
	for _, ending := range endings {
		ended := text + ending
		open := strings.Count(ended, "(") - strings.Count(ended, ")")
		if open < 0 {
			continue
		}
		if closes(ended, open) {
			return true
		}
	}
	return false
}

func closes(text string, open int) bool {
	if open == 0 {
		return isPolicy(text)
	}
	return closes(text+")", open-1) || closes(text+")()", open-1)
}

// wantText answers what Check owes to a text that is short and not too deep.
func wantText(text string) checkCase {
	if isPolicy(text) {
		return checkCase{text, split.OK, 0}
	}
	for i := range len(text) {
		if !canGoOn(text[:i+1]) {
			return checkCase{text, split.ErrText, i}
		}
	}
	return checkCase{text, split.ErrText, len(text)}
}

func TestCheckAllShortTexts(t *testing.T) {
	const letters = "PCRHIagh09()x"
	texts := []string{""}
	for length := 1; length <= 3; length++ {
		var longer []string
		for _, text := range texts {
			for _, letter := range letters {
				longer = append(longer, text+string(letter))
			}
		}
		for _, text := range longer {
			runCheckCases(t, []checkCase{wantText(text)})
		}
		texts = longer
	}
}

func TestCheckEverySingleByte(t *testing.T) {
	for _, begin := range []string{"", "P", "C", "Ca", "Ca000", "R", "Rb", "Rbc", "H", "H0", "H1", "H50", "H50(", "Ia0000()", "Ia0000()("} {
		for b := range 256 {
			runCheckCases(t, []checkCase{wantText(begin + string([]byte{byte(b)}))})
		}
	}
}

// Policies with a few bytes changed, cut out or put in.
func TestCheckSpoiltPolicies(t *testing.T) {
	random := rand.New(rand.NewSource(1))
	for range 3000 {
		text := writePolicy(makePolicy(random, 2, 3))
		for range random.Intn(3) {
			text = spoil(random, text)
		}
		if len(text) > 40 {
			text = text[:40]
		}
		if strings.Count(text, "(") <= 5 {
			runCheckCases(t, []checkCase{wantText(text)})
		}
	}
}

func spoil(random *rand.Rand, text string) string {
	const letters = "PCRHIabcdefgh0123456789()x"
	at := random.Intn(len(text) + 1)
	letter := string(letters[random.Intn(len(letters))])
	switch random.Intn(4) {
	case 0:
		return text[:at]
	case 1:
		return text[:at] + letter + text[at:]
	case 2:
		return text[:at] + text[min(at+1, len(text)):]
	}
	return text[:at] + letter + text[min(at+1, len(text)):]
}
