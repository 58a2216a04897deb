package tests

import (
	"fmt"
	"math/rand/v2"
	"regexp"
	"slices"
	"strings"
	"testing"

	"loop.example/sprag/impl"
)

// forms are the lines' forms, with # for a number; a text's last one has no bytes.
var forms = []string{"track # brake #\n", "limit # # #\n", "train # end # delay #\n", ""}

// follows tells which forms may stand behind each.
var follows = [][]int{{0, 1, 2}, {1, 2}, {3}, {}}

// mark is how far a text has come: in which form, ahead of which byte of it, and behind which digits of a number.
type mark struct {
	form, at int
	digits   string
}

// next is all that a mark may be behind one byte more.
func (m mark) next(b byte) []mark {
	if m.at == len(forms[m.form]) {
		return nil
	}
	if forms[m.form][m.at] == '#' {
		return m.nextInNumber(b)
	}
	if forms[m.form][m.at] != b {
		return nil
	}
	if m.at++; m.at < len(forms[m.form]) {
		return []mark{m}
	}
	var out []mark
	for _, form := range follows[m.form] {
		out = append(out, mark{form: form})
	}
	return out
}

func (m mark) nextInNumber(b byte) []mark {
	var out []mark
	if m.digits != "" {
		out = mark{form: m.form, at: m.at + 1}.next(b)
	}
	if b >= '0' && b <= '9' && m.digits != "0" && len(m.digits) < 9 {
		m.digits += string(rune(b))
		out = append(out, m)
	}
	return out
}

// faultByBytes follows the document's words byte by byte, with all that a text in form may be by then: the place of the first byte behind which there is none, and whether the text is in form.
func faultByBytes(text string) (at int, inForm bool) {
	marks := []mark{{}}
	for i := range len(text) {
		var later []mark
		for _, m := range marks {
			later = append(later, m.next(text[i])...)
		}
		if len(later) == 0 {
			return i, false
		}
		marks = later
	}
	return len(text), slices.Contains(marks, mark{form: 3})
}

// toldByBytes is what ReadProfile has to answer.
func toldByBytes(text string) impl.Told {
	if len(text) > impl.MaxText {
		return impl.Told{Code: 1, At: impl.MaxText}
	}
	at, inForm := faultByBytes(text)
	if !inForm {
		return impl.Told{Code: 1, At: at}
	}
	p := scanned(text)
	if wrong := impl.ProfileOk(p); wrong != 0 {
		return impl.Told{Code: 1 + wrong}
	}
	return impl.Told{Profile: p}
}

// scanned is the profile of a text in form.
func scanned(text string) impl.Profile {
	var p impl.Profile
	for line := range strings.Lines(text) {
		var piece impl.Piece
		var zone impl.Zone
		if n, _ := fmt.Sscanf(line, "track %d brake %d", &piece.Len, &piece.Brake); n == 2 {
			p.Pieces = append(p.Pieces, piece)
		} else if n, _ := fmt.Sscanf(line, "limit %d %d %d", &zone.From, &zone.To, &zone.Speed); n == 3 {
			p.Zones = append(p.Zones, zone)
		} else {
			fmt.Sscanf(line, "train %d end %d delay %d", &p.Train, &p.End, &p.Delay)
		}
	}
	return p
}

// written is a profile as a text, right or not, however long.
func written(p impl.Profile) string {
	var text strings.Builder
	for _, piece := range p.Pieces {
		fmt.Fprintf(&text, "track %d brake %d\n", piece.Len, piece.Brake)
	}
	for _, zone := range p.Zones {
		fmt.Fprintf(&text, "limit %d %d %d\n", zone.From, zone.To, zone.Speed)
	}
	fmt.Fprintf(&text, "train %d end %d delay %d\n", p.Train, p.End, p.Delay)
	return text.String()
}

func sameProfile(p, q impl.Profile) bool {
	return slices.Equal(p.Pieces, q.Pieces) && slices.Equal(p.Zones, q.Zones) && p.Train == q.Train && p.End == q.End && p.Delay == q.Delay
}

func checkTold(t *testing.T, name, text string, want impl.Told) {
	t.Helper()
	got := impl.ReadProfile(text)
	if got.Code != want.Code || got.At != want.At || !sameProfile(got.Profile, want.Profile) {
		t.Fatalf("%s: ReadProfile(%q) is %v, want %v", name, text, got, want)
	}
}

// checkRead holds a text against the document's words; a profile that is read has no other text.
func checkRead(t *testing.T, name, text string) {
	t.Helper()
	checkTold(t, name, text, toldByBytes(text))
	if got := impl.ReadProfile(text); got.Code == 0 && impl.WriteProfile(got.Profile) != text {
		t.Fatalf("%s: %q is read, but %q written", name, text, impl.WriteProfile(got.Profile))
	}
}

// greatest has the greatest numbers and the most lines that there are: its text would be far above MaxText.
func greatest() impl.Profile {
	p := manyPieces(impl.MaxPieces, mostLen, impl.MaxBrake)
	last := lastPlace(p)
	p.Zones = slices.Repeat([]impl.Zone{{From: last, To: last, Speed: impl.MaxSpeed}}, impl.MaxZones)
	p.Train, p.End, p.Delay = impl.MaxLen, last, impl.MaxDelay
	return p
}

// ofTextLen is the greatest profile with digits left out until its text has n bytes.
func ofTextLen(n int) impl.Profile {
	p := greatest()
	more := len(written(p)) - n
	for i := range p.Zones {
		for ; more > 0 && p.Zones[i].From >= 10; more-- {
			p.Zones[i].From /= 10
		}
	}
	return p
}

// textProfiles are right, with a text of at most MaxText bytes.
func textProfiles() []impl.Profile {
	sixty := manyPieces(impl.MaxPieces, 1, 10)
	sixty.Zones = slices.Repeat([]impl.Zone{{From: 0, To: 60, Speed: 1}}, impl.MaxZones)
	return slices.Concat(smallProfiles(), drawnProfiles(200, 400), drawnProfiles(40, mostLen), []impl.Profile{
		sixty,
		withZones(greatest()),
		ofTextLen(impl.MaxText),
		ofTextLen(impl.MaxText - 1),
		withTrain(level(1, 10), impl.MaxLen),
	})
}

// shortTexts have every sort of line, now once, now twice, and numbers of one digit, of some, of nine.
func shortTexts() []string {
	return []string{
		"track 1 brake 10\ntrain 0 end 1 delay 0\n",
		"track 100 brake 10\nlimit 20 60 30\ntrain 10 end 90 delay 20\n",
		"track 100 brake 10\ntrack 50 brake 40\nlimit 20 60 30\nlimit 0 0 10000\ntrain 100000000 end 140 delay 2\n",
		"track 1666666 brake 1000\nlimit 9 1000000 1\ntrain 123456789 end 0 delay 9\n",
	}
}

func TestTextRange(t *testing.T) {
	if impl.MaxText != 3000 {
		t.Errorf("%d bytes, want 3000", impl.MaxText)
	}
}

func TestWriteProfileAtInputs(t *testing.T) {
	zones := []impl.Zone{{From: 20, To: 60, Speed: 30}, {From: 0, To: 0, Speed: 10000}, {From: 20, To: 60, Speed: 30}}
	for _, c := range []struct {
		name  string
		p     impl.Profile
		lines []string
	}{
		{"one piece, no zone", level(1, 10), []string{"track 1 brake 10", "train 0 end 0 delay 0"}},
		{"one piece, an empty list of zones", withZones(level(7, 10), []impl.Zone{}...), []string{"track 7 brake 10", "train 0 end 0 delay 0"}},
		{"one piece, one zone", withZones(level(100, 10), zones[0]), []string{"track 100 brake 10", "limit 20 60 30", "train 0 end 0 delay 0"}},
		{"one piece, many zones, one of them twice", withZones(level(100, 10), zones...), []string{"track 100 brake 10", "limit 20 60 30", "limit 0 0 10000", "limit 20 60 30", "train 0 end 0 delay 0"}},
		{"pieces alike", manyPieces(3, 5, 10), []string{"track 5 brake 10", "track 5 brake 10", "track 5 brake 10", "train 0 end 0 delay 0"}},
		{"many of each", threePieces(), []string{"track 100 brake 10", "track 30 brake 1000", "track 70 brake 25", "limit 20 60 30", "limit 50 90 20", "limit 55 55 25", "train 15 end 180 delay 2"}},
		{"the greatest piece", withTrain(endingAt(level(1666666, 1000), 1666666), 100000000), []string{"track 1666666 brake 1000", "train 100000000 end 1666666 delay 0"}},
		{"the greatest delay", delayedBy(level(1, 10), 20), []string{"track 1 brake 10", "train 0 end 0 delay 20"}},
	} {
		want := strings.Join(c.lines, "\n") + "\n"
		if got := impl.WriteProfile(c.p); got != want {
			t.Errorf("%s: %q, want %q", c.name, got, want)
		}
	}
}

func TestWriteProfileOfTheGreatestNumbers(t *testing.T) {
	p := withZones(greatest(), impl.Zone{From: 99999960, To: 99999960, Speed: 10000}, impl.Zone{From: 0, To: 99999960, Speed: 1})
	want := strings.Repeat("track 1666666 brake 1000\n", 60) + "limit 99999960 99999960 10000\nlimit 0 99999960 1\ntrain 100000000 end 99999960 delay 20\n"
	if got := impl.WriteProfile(p); got != want {
		t.Errorf("%q, want %q", got, want)
	}
	checkTold(t, "the greatest numbers", want, impl.Told{Profile: p})
}

func TestWriteProfileLineByLine(t *testing.T) {
	for _, p := range textProfiles() {
		got := impl.WriteProfile(p)
		if got != written(p) || got == "" {
			t.Errorf("%v: %q, want %q", p, got, written(p))
		}
		if lines := strings.Count(got, "\n"); lines != len(p.Pieces)+len(p.Zones)+1 {
			t.Errorf("%v: %d lines", p, lines)
		}
	}
}

func TestWriteProfileOfMaxTextBytes(t *testing.T) {
	for n := impl.MaxText - 20; n <= impl.MaxText+20; n++ {
		p := ofTextLen(n)
		want := written(p)
		if len(want) != n || impl.ProfileOk(p) != 0 {
			t.Fatalf("%d bytes, want %d", len(want), n)
		}
		if n > impl.MaxText {
			want = ""
		}
		if got := impl.WriteProfile(p); got != want {
			t.Errorf("%d bytes: %q, want %q", n, got, want)
		}
	}
	if got := impl.WriteProfile(greatest()); got != "" {
		t.Errorf("the greatest profile: %q, want nothing", got)
	}
}

func TestWriteProfileOfWrongProfiles(t *testing.T) {
	for _, f := range profileFaults() {
		p := threePieces()
		f.spoil(&p)
		if got := impl.WriteProfile(p); got != "" {
			t.Errorf("%s: %q, want nothing", f.name, got)
		}
	}
	if got := impl.WriteProfile(impl.Profile{}); got != "" {
		t.Errorf("the zero value: %q, want nothing", got)
	}
}

func TestReadBack(t *testing.T) {
	for _, p := range textProfiles() {
		text := impl.WriteProfile(p)
		checkTold(t, "read back", text, impl.Told{Profile: p})
		checkRead(t, "read back", text)
	}
}

func TestEveryBeginningOfAText(t *testing.T) {
	for _, p := range textProfiles() {
		text := impl.WriteProfile(p)
		for n := range len(text) {
			checkTold(t, "a beginning", text[:n], impl.Told{Code: 1, At: n})
		}
	}
}

func TestAByteChanged(t *testing.T) {
	for _, text := range shortTexts() {
		for i := range len(text) {
			for b := range 256 {
				checkRead(t, "changed", text[:i]+string([]byte{byte(b)})+text[i+1:])
			}
		}
	}
}

func TestAByteLeftOut(t *testing.T) {
	for _, text := range append(shortTexts(), written(threePieces()), written(ofTextLen(impl.MaxText))) {
		for i := range len(text) {
			checkRead(t, "left out", text[:i]+text[i+1:])
		}
	}
}

func TestSomeBytesLeftOut(t *testing.T) {
	for _, text := range shortTexts() {
		for i := range len(text) {
			for j := i + 1; j <= len(text); j++ {
				checkRead(t, "some left out", text[:i]+text[j:])
			}
		}
	}
}

func TestAByteMore(t *testing.T) {
	for _, text := range shortTexts() {
		for i := range len(text) + 1 {
			for b := range 256 {
				checkRead(t, "put in", text[:i]+string([]byte{byte(b)})+text[i:])
			}
		}
	}
}

// Bytes of a text are drawn more often than others: a fault is to be found behind some that are none.
func TestManyBytesChanged(t *testing.T) {
	const near = "0123456789 \ntrackbrakelimittrainenddelay"
	r := rand.New(rand.NewPCG(5, 9))
	for range 40000 {
		text := shortTexts()[r.IntN(len(shortTexts()))]
		for range 1 + r.IntN(4) {
			i := r.IntN(len(text) + 1)
			j := min(i+r.IntN(3), len(text))
			from := r.IntN(len(near))
			text = text[:i] + near[from:min(from+r.IntN(3), len(near))] + text[j:]
		}
		checkRead(t, "drawn", text)
	}
}

// What is in form, told by an expression, is what has another Code than 1.
func TestInFormByExpression(t *testing.T) {
	const n = "(0|[1-9][0-9]{0,8})"
	inForm := regexp.MustCompile("^" + strings.ReplaceAll("(track # brake #\n)+(limit # # #\n)*train # end # delay #\n", "#", n) + "$")
	for _, text := range shortTexts() {
		for i := range len(text) + 1 {
			for j := i; j <= min(i+2, len(text)); j++ {
				for _, put := range []string{"", "0", "1", "00", "99", " ", "\n", "t", "\ntrack 5 brake 50", "\nlimit 1 1 1"} {
					changed := text[:i] + put + text[j:]
					if got := impl.ReadProfile(changed).Code != 1; got != inForm.MatchString(changed) {
						t.Fatalf("%q: in form %v, want %v", changed, got, !got)
					}
				}
			}
		}
	}
}

// atFault are texts that are not in form, and where that shows.
type atFault struct {
	name, text string
	at         int
}

func checkFaults(t *testing.T, faults []atFault) {
	t.Helper()
	for _, f := range faults {
		checkTold(t, f.name, f.text, impl.Told{Code: 1, At: f.at})
		if want := toldByBytes(f.text); want.Code != 1 || want.At != f.at {
			t.Errorf("%s: the words byte by byte tell %v, want %d", f.name, want, f.at)
		}
	}
}

func TestReadWords(t *testing.T) {
	const track, limit, train = "track 1 brake 10\n", "limit 0 1 5\n", "train 0 end 1 delay 0\n"
	checkFaults(t, []atFault{
		{"nothing at all", "", 0},
		{"a blank", " ", 0},
		{"a newline", "\n", 0},
		{"another word", "brake 10\n", 0},
		{"track and train, at first", "train 0", 3},
		{"track and train, cut off where they part, at first", "tra", 3},
		{"neither, at first", "tram", 3},
		{"neither, behind a track", track + "tram", 17 + 3},
		{"track and train, cut off where they part, behind a track", track + "tra", 17 + 3},
		{"train, behind a track, cut off", track + "trai", 17 + 4},
		{"track, behind a track, cut off", track + "trac", 17 + 4},
		{"track, then train, in one word", track + "traci", 17 + 4},
		{"train, then track, in one word", track + "traik", 17 + 4},
		{"track, behind a limit", track + limit + "track 1", 29 + 3},
		{"train, behind a limit, cut off", track + limit + "trai", 29 + 4},
		{"limit, behind a train", track + train + "limit", 39},
		{"limit, at first", limit, 0},
		{"a word that is too long", "tracks 1", 5},
		{"a word that is too short", "trac 1", 4},
		{"a great letter", "Track 1", 0},
		{"great letters", "tRACK 1", 1},
		{"a word of another line", "track 1 end 5", 8},
		{"brake and blank alike", "track 1 blake", 9},
		{"end and delay", track + "train 0 delay", 17 + 8},
		{"delay and end", track + "train 0 end 1 end", 17 + 14},
		{"the second word missing", "track 1 10\n", 8},
		{"a number missing", "track  brake", 6},
		{"a last number missing", "track 1 brake \n", 14},
		{"a number too many", "track 1 brake 10 5\n", 16},
		{"a number of a limit missing", track + "limit 0 1\n", 17 + 9},
		{"a number of a limit too many", track + "limit 0 1 5 5\n", 17 + 11},
		{"a number in letters", "track one", 6},
	})
}

func TestReadBlanksAndNewlines(t *testing.T) {
	const track, train = "track 1 brake 10\n", "train 0 end 1 delay 0\n"
	checkFaults(t, []atFault{
		{"a blank ahead", " " + track + train, 0},
		{"a newline ahead", "\n" + track + train, 0},
		{"a blank behind", track + train + " ", 39},
		{"a newline behind", track + train + "\n", 39},
		{"a newline missing at last", strings.TrimSuffix(track+train, "\n"), 38},
		{"a newline missing in between", "track 1 brake 10" + train, 16},
		{"a newline more in between", track + "\n" + train, 17},
		{"a blank in place of a newline", "track 1 brake 10 " + train, 16},
		{"a blank ahead of a newline", "track 1 brake 10 \n" + train, 16},
		{"a newline in place of a blank", "track 1\nbrake 10\n" + train, 7},
		{"a tab in place of a blank", "track\t1 brake 10\n" + train, 5},
		{"a blank missing behind a word", "track1 brake 10\n" + train, 5},
		{"a blank missing ahead of a word", "track 1brake 10\n" + train, 7},
		{"a blank more behind a word", "track  1 brake 10\n" + train, 6},
		{"a blank more ahead of a word", "track 1  brake 10\n" + train, 8},
		{"a return ahead of a newline", "track 1 brake 10\r\n" + train, 16},
		{"a return in place of a newline", "track 1 brake 10\r" + train, 16},
		{"two blanks between a limit's numbers", track + "limit 0  1 5\n" + train, 17 + 8},
	})
}

func TestReadOtherBytes(t *testing.T) {
	const track, train = "track 1 brake 10\n", "train 0 end 1 delay 0\n"
	checkFaults(t, []atFault{
		{"a zero byte at first", "\x00", 0},
		{"a zero byte in a word", "tra\x00k", 3},
		{"a zero byte in a number", "track 1\x00", 7},
		{"a zero byte behind the last line", track + train + "\x00", 39},
		{"the greatest byte in a word", "tr\xffck", 2},
		{"the greatest byte for a number", "track \xff", 6},
		{"a mark ahead of a text", "\ufeff" + track + train, 0},
		{"a letter of two bytes", "tr\u00e4ck", 2},
		{"a digit of another script", "track \u0661", 6},
		{"a digit of another script behind one", "track 1\u0661", 7},
		{"a wide digit", "track \uff11", 6},
		{"a blank of two bytes", "track\u00a01", 5},
		{"the byte below the digits", "track 1/", 7},
		{"the byte above the digits", "track 1:", 7},
		{"the byte below the digits at first", "track /", 6},
		{"the byte above the digits at first", "track :", 6},
	})
}

// inEachPlace puts what may be a number at the place of each of a text's numbers, one at a time: told tells the text, where the number begins, and in which of the places.
func inEachPlace(number string, told func(text string, begins, place int)) {
	const shape = "track # brake #\nlimit # # #\ntrain # end # delay #\n"
	ordinary := []string{"100", "10", "0", "50", "30", "7", "90", "2"}
	for place := range ordinary {
		numbers := slices.Clone(ordinary)
		numbers[place] = number
		parts := strings.Split(shape, "#")
		text := parts[0]
		begins := 0
		for i, n := range numbers {
			if i == place {
				begins = len(text)
			}
			text += n + parts[i+1]
		}
		told(text, begins, place)
	}
}

func TestReadNumbersThatAreNone(t *testing.T) {
	for _, c := range []struct {
		number string
		at     int
	}{
		{"", 0}, {"-1", 0}, {"+1", 0}, {"-0", 0}, {" 1", 0}, {"x", 0}, {".5", 0}, {"#", 0}, {"\x00", 0},
		{"00", 1}, {"01", 1}, {"010", 1}, {"000000001", 1}, {"0000000000", 1}, {"0x1", 1}, {"0b1", 1}, {"0.5", 1}, {"0-", 1},
		{"1x", 1}, {"1.0", 1}, {"1,000", 1}, {"1_000", 1}, {"1e3", 1}, {"1-", 1}, {"1+1", 1}, {"10'", 2},
		{"1000000000", 9}, {"1234567890", 9}, {"9999999999", 9}, {"4294967297", 9}, {"12345678901234567890", 9}, {"18446744073709551617", 9},
		{"123456789x", 9}, {"1000000000000", 9}, {strings.Repeat("7", 100), 9},
	} {
		inEachPlace(c.number, func(text string, begins, place int) {
			checkTold(t, c.number, text, impl.Told{Code: 1, At: begins + c.at})
			checkRead(t, c.number, text)
		})
	}
}

// A number that is cut off is at fault at its end, but for a digit too many.
func TestReadNumbersThatAreCutOff(t *testing.T) {
	for _, c := range []struct {
		number string
		at     int
	}{{"", 0}, {"0", 1}, {"1", 1}, {"00", 1}, {"01", 1}, {"99999999", 8}, {"999999999", 9}, {"1000000000", 9}, {"10000000000", 9}} {
		inEachPlace(c.number, func(text string, begins, place int) {
			checkTold(t, c.number, text[:begins+len(c.number)], impl.Told{Code: 1, At: begins + c.at})
		})
	}
}

// Each number of up to nine digits is in form, whatever it makes of the profile.
func TestReadNumbers(t *testing.T) {
	for number, codes := range map[string][]int{
		"0":         {3, 3, 0, 0, 4, 0, 0, 0},
		"1":         {4, 3, 0, 0, 0, 0, 0, 0},
		"9":         {4, 3, 0, 0, 0, 0, 0, 0},
		"10":        {4, 0, 0, 0, 0, 0, 0, 0},
		"20":        {4, 0, 0, 0, 0, 0, 0, 0},
		"21":        {4, 0, 0, 0, 0, 0, 0, 7},
		"50":        {6, 0, 0, 0, 0, 0, 0, 7},
		"51":        {6, 0, 4, 0, 0, 0, 0, 7},
		"90":        {0, 0, 4, 0, 0, 0, 0, 7},
		"100":       {0, 0, 4, 0, 0, 0, 0, 7},
		"101":       {0, 0, 4, 4, 0, 0, 6, 7},
		"1000":      {0, 0, 4, 4, 0, 0, 6, 7},
		"1001":      {0, 3, 4, 4, 0, 0, 6, 7},
		"10000":     {0, 3, 4, 4, 0, 0, 6, 7},
		"10001":     {0, 3, 4, 4, 4, 0, 6, 7},
		"1666666":   {0, 3, 4, 4, 4, 0, 6, 7},
		"1666667":   {3, 3, 4, 4, 4, 0, 6, 7},
		"99999999":  {3, 3, 4, 4, 4, 0, 6, 7},
		"100000000": {3, 3, 4, 4, 4, 0, 6, 7},
		"100000001": {3, 3, 4, 4, 4, 5, 6, 7},
		"123456789": {3, 3, 4, 4, 4, 5, 6, 7},
		"999999999": {3, 3, 4, 4, 4, 5, 6, 7},
	} {
		inEachPlace(number, func(text string, begins, place int) {
			if got := impl.ReadProfile(text); got.Code != codes[place] || got.At != 0 {
				t.Errorf("%q: Code %d, At %d, want %d and 0", text, got.Code, got.At, codes[place])
			}
			checkRead(t, number, text)
		})
	}
}

// Every list of up to six lines: only those in the document's order are in form.
func TestEveryOrderOfLines(t *testing.T) {
	lines := []string{"track 9 brake 10\n", "limit 0 9 5\n", "train 0 end 9 delay 0\n"}
	inForm := regexp.MustCompile("^0+1*2$")
	total := 0
	for n, count := 0, 1; n <= 6; n, count = n+1, count*3 {
		for choice := range count {
			order, text := "", ""
			for range n {
				order += fmt.Sprint(choice % 3)
				text += lines[choice%3]
				choice /= 3
			}
			if got := impl.ReadProfile(text).Code == 0; got != inForm.MatchString(order) {
				t.Errorf("lines %s: in form %v, want %v", order, got, !got)
			}
			checkRead(t, order, text)
			total++
		}
	}
	if total != 1+3+9+27+81+243+729 {
		t.Errorf("%d lists of lines", total)
	}
}

func TestReadLines(t *testing.T) {
	const track, limit, train = "track 9 brake 10\n", "limit 0 9 5\n", "train 0 end 9 delay 0\n"
	checkFaults(t, []atFault{
		{"track is missing", limit + train, 0},
		{"track is missing, and limit", train, 3},
		{"train is missing", track + limit, 29},
		{"train is missing, and limit", track, 17},
		{"train stands twice", track + train + train, 39},
		{"train stands ahead of a limit", track + train + limit, 39},
		{"train stands ahead of a track", track + train + track, 39},
		{"limit stands ahead of a track", track + limit + track + train, 29 + 3},
		{"limit stands at first", limit + track + train, 0},
		{"two texts", track + limit + train + track + limit + train, 51},
	})
}

// A text that is too long is at fault at MaxText, whatever stands in it.
func TestReadMaxTextBytes(t *testing.T) {
	for n := impl.MaxText - 5; n <= impl.MaxText+5; n++ {
		p := ofTextLen(n)
		want := impl.Told{Profile: p}
		if n > impl.MaxText {
			want = impl.Told{Code: 1, At: impl.MaxText}
		}
		checkTold(t, "in form", written(p), want)
		checkTold(t, "a beginning", written(greatest())[:n], impl.Told{Code: 1, At: min(n, impl.MaxText)})
	}
	for _, c := range []struct {
		name, text string
		at         int
	}{
		{"the last byte at fault", written(ofTextLen(impl.MaxText))[:impl.MaxText-1] + "x", impl.MaxText - 1},
		{"a newline behind the last byte", written(ofTextLen(impl.MaxText)) + "\n", impl.MaxText},
		{"a newline behind the last byte but one", written(ofTextLen(impl.MaxText-1)) + "\n", impl.MaxText - 1},
		{"blanks, just so many", strings.Repeat(" ", impl.MaxText), 0},
		{"blanks, one more", strings.Repeat(" ", impl.MaxText+1), impl.MaxText},
		{"ordinary, then too much", shortTexts()[1] + strings.Repeat("x", impl.MaxText), impl.MaxText},
		{"a number without an end, just so long", "track " + strings.Repeat("1", impl.MaxText-6), 15},
		{"a number without an end", "track " + strings.Repeat("1", impl.MaxText), impl.MaxText},
		{"a line again and again", strings.Repeat("track 1 brake 10\n", 100000), impl.MaxText},
	} {
		checkTold(t, c.name, c.text, impl.Told{Code: 1, At: c.at})
	}
}

// isTold is whether a profile's numbers are such as stand in a text in form, and this is not too long.
func isTold(p impl.Profile) bool {
	_, inForm := faultByBytes(written(p))
	return inForm && len(written(p)) <= impl.MaxText
}

func TestReadWrongProfiles(t *testing.T) {
	told := map[string]int{}
	for _, f := range profileFaults() {
		p := threePieces()
		f.spoil(&p)
		if isTold(p) {
			checkTold(t, f.name, written(p), impl.Told{Code: 1 + f.code})
			told[f.name]++
		}
	}
	for _, name := range []string{"a piece too many", "a zone too many", "a zone that ends ahead of its beginning", "a zone beyond the last place", "a piece's Len", "a piece's Brake", "a zone's From", "a zone's To", "a zone's Speed", "Train", "End", "Delay"} {
		if told[name] == 0 {
			t.Errorf("%s: no text has this fault", name)
		}
	}
}

// Of two faults the first one counts, wherever in the text they stand.
func TestReadPairsOfFaults(t *testing.T) {
	var faults []fault
	for _, f := range profileFaults() {
		p := threePieces()
		if f.spoil(&p); isTold(p) {
			faults = append(faults, f)
		}
	}
	for _, one := range faults {
		for _, other := range faults {
			p := threePieces()
			other.spoil(&p)
			one.spoil(&p)
			if one.code <= other.code && isTold(p) {
				checkTold(t, one.name+" and "+other.name, written(p), impl.Told{Code: 1 + one.code})
			}
		}
	}
}

func TestReadCounts(t *testing.T) {
	for _, c := range []struct{ pieces, zones, code int }{
		{1, 0, 0}, {60, 0, 0}, {61, 0, 2}, {170, 0, 2}, {1, 60, 0}, {1, 61, 2}, {1, 240, 2}, {60, 60, 0}, {61, 60, 2}, {60, 61, 2}, {61, 61, 2},
	} {
		text := strings.Repeat("track 1 brake 10\n", c.pieces) + strings.Repeat("limit 0 1 5\n", c.zones) + "train 0 end 1 delay 0\n"
		if got := impl.ReadProfile(text); len(text) > impl.MaxText || got.Code != c.code || got.At != 0 {
			t.Errorf("%d pieces, %d zones: Code %d, At %d, want %d and 0", c.pieces, c.zones, got.Code, got.At, c.code)
		}
		checkRead(t, "counts", text)
	}
}

// A fault of form counts ahead of one of the profile, though this stands first.
func TestFormCountsAheadOfTheProfile(t *testing.T) {
	const wrong = "track 0 brake 1\nlimit 9 8 0\ntrain 999999999 end 5 delay 21"
	checkTold(t, "a newline missing", wrong, impl.Told{Code: 1, At: len(wrong)})
	checkTold(t, "a byte at fault", wrong+"x\n", impl.Told{Code: 1, At: len(wrong)})
	checkTold(t, "a byte too many", wrong+"\nx", impl.Told{Code: 1, At: len(wrong) + 1})
	checkTold(t, "in form", wrong+"\n", impl.Told{Code: 3})
}
