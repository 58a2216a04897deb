package tests

import (
	"math"
	"math/rand/v2"
	"reflect"
	"slices"
	"testing"

	"loop.example/sprag/impl"
)

// mayMove is whether a train at x that moved by last may move by v in the next tick, as the document's words have it.
func mayMove(p impl.Profile, acc, x, last, v int) bool {
	if v > last+acc || v < last-brakeByPieces(p, x) || v < 0 || v > impl.MaxRunV {
		return false
	}
	return keepsTo(p, move{x, x + v})
}

func standsHome(p impl.Profile, x, last, short int) bool { return last == 0 && p.End-x <= short }

func runByTicks(p impl.Profile, acc, x, short int, speeds []int) bool {
	last := 0
	for _, v := range speeds {
		if !mayMove(p, acc, x, last, v) {
			return false
		}
		x += v
		last = v
	}
	return standsHome(p, x, last, short)
}

// bestByTrying tries all lists of speeds out, one by one: the short ones first, and of as short ones the faster first.
func bestByTrying(p impl.Profile, acc, x, short int) []int {
	for ticks := 0; ; ticks++ {
		if speeds, ok := runOfTicks(p, acc, x, short, 0, ticks); ok {
			return speeds
		}
	}
}

func runOfTicks(p impl.Profile, acc, x, short, last, ticks int) ([]int, bool) {
	if ticks == 0 {
		return nil, standsHome(p, x, last, short)
	}
	for v := last + acc; v >= 0; v-- {
		if !mayMove(p, acc, x, last, v) {
			continue
		}
		if rest, ok := runOfTicks(p, acc, x+v, short, v, ticks-1); ok {
			return append([]int{v}, rest...), true
		}
	}
	return nil, false
}

// spell is a train between two ticks: where it is, and by what it moved last.
type spell struct{ at, last int }

// next goes through what a spell may become, the fastest first.
func (s spell) next(p impl.Profile, acc int) []spell {
	var out []spell
	for v := s.last + acc; v >= 0; v-- {
		if mayMove(p, acc, s.at, s.last, v) {
			out = append(out, spell{s.at + v, v})
		}
	}
	return out
}

// bestByTicks goes ahead from the beginning, tick by tick, with all that a train may have become by then, until one of them is home; then back, to leave those alone that come home in that tick.
func bestByTicks(p impl.Profile, acc, x, short int) []int {
	ticks := []map[spell]bool{{spell{x, 0}: true}}
	home := func(s spell) bool { return standsHome(p, s.at, s.last, short) }
	for !anyOf(ticks[len(ticks)-1], home) {
		later := map[spell]bool{}
		for s := range ticks[len(ticks)-1] {
			for _, n := range s.next(p, acc) {
				later[n] = true
			}
		}
		ticks = append(ticks, later)
	}
	for i := len(ticks) - 1; i >= 0; i-- {
		for s := range ticks[i] {
			leads := func(n spell) bool { return ticks[i+1][n] }
			if i == len(ticks)-1 && !home(s) || i < len(ticks)-1 && !slices.ContainsFunc(s.next(p, acc), leads) {
				delete(ticks[i], s)
			}
		}
	}
	var speeds []int
	s := spell{x, 0}
	for _, later := range ticks[1:] {
		for _, n := range s.next(p, acc) {
			if later[n] {
				s = n
				break
			}
		}
		speeds = append(speeds, s.last)
	}
	return speeds
}

func anyOf(spells map[spell]bool, is func(spell) bool) bool {
	for s := range spells {
		if is(s) {
			return true
		}
	}
	return false
}

// drawnWays are drawn profiles whose limits hold a run up, now a little, now much.
func drawnWays(n, mostPiece int) []impl.Profile {
	r := rand.New(rand.NewPCG(uint64(n), 4))
	out := drawnProfiles(n, mostPiece)
	for _, p := range out {
		slow := 1 + r.IntN(60)
		for i := range p.Zones {
			p.Zones[i].Speed = 1 + r.IntN(slow)
		}
	}
	return out
}

func someAccs() []int { return []int{1, 2, 3, 7, 10, 19, 20} }

func TestRunRanges(t *testing.T) {
	for i, c := range []struct{ got, want int }{
		{impl.MaxRun, 2000},
		{impl.MaxRunV, 60},
		{impl.MaxAcc, 20},
	} {
		if c.got != c.want {
			t.Errorf("constant %d: %d, want %d", i, c.got, c.want)
		}
	}
}

type runCase struct {
	name          string
	p             impl.Profile
	acc, x, short int
	speeds        []int
	want          bool
}

func checkRunOk(t *testing.T, cases []runCase) {
	t.Helper()
	for _, c := range cases {
		if got := impl.RunOk(c.p, c.acc, c.x, c.short, c.speeds); got != c.want {
			t.Errorf("%s: RunOk(%v, %d, %d, %d, %v) is %v, want %v", c.name, c.p, c.acc, c.x, c.short, c.speeds, got, c.want)
		}
	}
}

// A run may stand anywhere on these ways: only how its speeds follow one another is asked.
func TestRunOkSpeeds(t *testing.T) {
	weak, strong := flat(1000), endingAt(level(1000, 1000), 1000)
	checkRunOk(t, []runCase{
		{"no speeds", weak, 10, 0, 2000, []int{}, true},
		{"nil for speeds", weak, 10, 0, 2000, nil, true},
		{"it stands all the time", weak, 10, 0, 2000, []int{0}, true},
		{"it stands at first, in between and at last", weak, 10, 0, 2000, []int{0, 0, 5, 0, 0, 5, 0, 0}, true},
		{"a last speed of 1", weak, 10, 0, 2000, []int{1}, false},
		{"a last speed of 1, behind others", weak, 10, 0, 2000, []int{10, 5, 1}, false},
		{"a last speed that is not 0, behind one that is", weak, 10, 0, 2000, []int{10, 0, 10}, false},
		{"a first speed of just acc", weak, 10, 0, 2000, []int{10, 0}, true},
		{"a first speed of one more", weak, 10, 0, 2000, []int{11, 1, 0}, false},
		{"a first speed of one more, by an acc of one more", weak, 11, 0, 2000, []int{11, 1, 0}, true},
		{"a first speed of 1 by an acc of 1", weak, 1, 0, 2000, []int{1, 0}, true},
		{"a first speed of 2 by an acc of 1", weak, 1, 0, 2000, []int{2, 0}, false},
		{"a first speed of 20 by an acc of 20", strong, 20, 0, 2000, []int{20, 0}, true},
		{"a first speed of 21 by an acc of 20", strong, 20, 0, 2000, []int{21, 0}, false},
		{"acc above the speed before", weak, 10, 0, 2000, []int{5, 15, 5, 0}, true},
		{"one more above the speed before", weak, 10, 0, 2000, []int{5, 16, 6, 0}, false},
		{"acc above a speed of 0 before", weak, 10, 0, 2000, []int{5, 0, 10, 0}, true},
		{"one more above a speed of 0 before", weak, 10, 0, 2000, []int{5, 0, 11, 1, 0}, false},
		{"acc above it, though far above the brake", endingAt(level(1000, 10), 1000), 20, 0, 2000, []int{20, 10, 0}, true},
		{"the brake below the speed before", weak, 20, 0, 2000, []int{20, 10, 0}, true},
		{"one more below the speed before", weak, 20, 0, 2000, []int{20, 9, 0}, false},
		{"one more below it, at the last", weak, 20, 0, 2000, []int{20, 11, 0}, false},
		{"far more below it", weak, 20, 0, 2000, []int{20, 40, 0}, false},
		{"from the greatest speed to a stand", strong, 20, 0, 2000, []int{20, 40, 60, 0}, true},
		{"the greatest speed kept", strong, 20, 0, 2000, []int{20, 40, 60, 60, 0}, true},
		{"one above the greatest speed", strong, 20, 0, 2000, []int{20, 40, 60, 61, 0}, false},
		{"one above the greatest speed at once", strong, 20, 0, 2000, []int{20, 40, 41, 61, 0}, false},
		{"a speed of -1 at first", strong, 20, 0, 2000, []int{-1, 0}, false},
		{"a speed of -1 in between", strong, 20, 500, 2000, []int{10, -1, 0}, false},
		{"a speed of -1 at last", strong, 20, 500, 2000, []int{10, 0, -1}, false},
		{"back and forth", strong, 20, 500, 2000, []int{-10, 10, 0}, false},
		{"the least int", strong, 20, 0, 2000, []int{math.MinInt, 0}, false},
		{"the least int behind a speed", strong, 20, 0, 2000, []int{20, math.MinInt, 0}, false},
		{"the greatest int", strong, 20, 0, 2000, []int{math.MaxInt, 0}, false},
		{"the greatest int behind a speed", strong, 20, 0, 2000, []int{20, math.MaxInt, 0}, false},
		{"a delay has no part in it", delayedBy(weak, 20), 10, 0, 2000, []int{10, 20, 10, 0}, true},
	})
}

// The end at 60 is not the last place of the way.
func TestRunOkAtTheEnd(t *testing.T) {
	p := endingAt(level(1000, 10), 60)
	checkRunOk(t, []runCase{
		{"just at End", p, 10, 0, 0, []int{10, 20, 20, 10, 0}, true},
		{"just at End, and it stands there for a while", p, 10, 0, 0, []int{10, 20, 20, 10, 0, 0, 0}, true},
		{"one short of it", p, 10, 0, 0, []int{10, 20, 19, 10, 0}, false},
		{"one short of it by a short of 1", p, 10, 0, 1, []int{10, 20, 19, 10, 0}, true},
		{"two short of it by a short of 1", p, 10, 0, 1, []int{10, 20, 19, 9, 0}, false},
		{"two short of it by a short of 2", p, 10, 0, 2, []int{10, 20, 19, 9, 0}, true},
		{"just at End by a short of 1", p, 10, 0, 1, []int{10, 20, 20, 10, 0}, true},
		{"one beyond it", p, 10, 0, 0, []int{10, 20, 20, 10, 1, 0}, false},
		{"one beyond it by a short of 2000", p, 10, 0, 2000, []int{10, 20, 20, 10, 1, 0}, false},
		{"a move from ahead of it ends one beyond it", p, 10, 0, 2000, []int{10, 20, 21, 10, 0}, false},
		{"a move from one ahead of it ends one beyond it", p, 10, 59, 2000, []int{2, 0}, false},
		{"a move from one ahead of it ends at it", p, 10, 59, 0, []int{1, 0}, true},
		{"the brake is too weak to stand at End", p, 11, 49, 0, []int{11, 0}, false},
		{"the brake is just strong enough", p, 11, 50, 0, []int{10, 0}, true},
		{"it stood at End and goes on", p, 10, 60, 0, []int{0, 1, 0}, false},
		{"it begins at End", p, 10, 60, 0, nil, true},
		{"it begins at End and stands there", p, 10, 60, 0, []int{0, 0, 0}, true},
		{"it begins one ahead of End", p, 10, 59, 0, nil, false},
		{"it begins one ahead of End and stands there", p, 10, 59, 0, []int{0, 0, 0}, false},
		{"it begins one ahead of End, by a short of 1", p, 10, 59, 1, nil, true},
		{"it begins just short of End", p, 10, 0, 60, nil, true},
		{"it begins one more short of End", p, 10, 0, 59, nil, false},
		{"it begins one more short of End, and comes by 1", p, 10, 0, 59, []int{1, 0}, true},
		{"an End of 0", endingAt(level(1000, 10), 0), 10, 0, 0, nil, true},
		{"an End of 0, and it goes on", endingAt(level(1000, 10), 0), 10, 0, 0, []int{1, 0}, false},
		{"the last place", endingAt(level(60, 10), 60), 10, 0, 0, []int{10, 20, 20, 10, 0}, true},
		{"beyond the last place", endingAt(level(60, 10), 60), 10, 0, 0, []int{10, 20, 20, 10, 1, 0}, false},
		{"the length of the train has no part in it", withTrain(p, 1000), 10, 0, 0, []int{10, 20, 20, 10, 0}, true},
	})
}

// The brake is that of the place at which the train is, unlike chapter 3's, which is that of where its last move began.
func TestRunOkWhosePlacesBrakeCounts(t *testing.T) {
	stronger, weaker := twoPieces(10, 50, 500), twoPieces(50, 10, 500)
	short := endingAt(impl.Profile{Pieces: []impl.Piece{{Len: 10, Brake: 10}, {Len: 5, Brake: 1000}, {Len: 200, Brake: 10}}}, 215)
	checkRunOk(t, []runCase{
		{"at the beginning of a stronger brake", stronger, 20, 60, 2000, []int{20, 20, 0}, true},
		{"one ahead of it", stronger, 20, 60, 2000, []int{20, 19, 0}, false},
		{"one ahead of it, by the weaker brake", stronger, 20, 60, 2000, []int{20, 19, 9, 0}, true},
		{"one beyond it", stronger, 20, 61, 2000, []int{20, 20, 0}, true},
		{"just the stronger brake", stronger, 20, 0, 2000, []int{20, 40, 40, 50, 0}, true},
		{"one more than the stronger brake", stronger, 20, 0, 2000, []int{20, 40, 40, 51, 0}, false},
		{"at the beginning of a weaker brake", weaker, 20, 60, 2000, []int{20, 20, 0}, false},
		{"at the beginning of a weaker brake, by just that", weaker, 20, 60, 2000, []int{20, 20, 10, 0}, true},
		{"one ahead of that", weaker, 20, 60, 2000, []int{20, 19, 0}, true},
		{"at a last place", stronger, 20, 480, 0, []int{20, 0}, true},
		{"at a last place, a weaker brake", weaker, 20, 480, 0, []int{20, 0}, false},
		{"at a last place, just the weaker brake", weaker, 20, 480, 0, []int{10, 10, 0}, true},
		{"in a short piece", short, 20, 0, 2000, []int{14, 0}, true},
		{"in a short piece, from one farther behind", short, 20, 1, 2000, []int{14, 0}, false},
		{"behind a short piece", short, 20, 0, 2000, []int{15, 0}, false},
		{"over a short piece", short, 20, 0, 2000, []int{16, 0}, false},
		{"over a short piece, by the weaker brake", short, 20, 0, 2000, []int{16, 6, 0}, true},
	})
}

// One zone from 100 to 120 by 5: with a train of 15 it is touched until 135.
func TestRunOkOneZone(t *testing.T) {
	zone := impl.Zone{From: 100, To: 120, Speed: 5}
	p := withZones(endingAt(level(1000, 1000), 1000), zone)
	q := withTrain(p, 15)
	point := withZones(p, impl.Zone{From: 100, To: 100, Speed: 5})
	fast := withZones(p, impl.Zone{From: 0, To: 1000, Speed: 60})
	checkRunOk(t, []runCase{
		{"a move that ends just at From, at its limit", p, 20, 95, 2000, []int{5, 0}, true},
		{"a move that ends just at From, one faster", p, 20, 94, 2000, []int{6, 0}, false},
		{"a move that ends one ahead of From, one faster", p, 20, 93, 2000, []int{6, 0}, true},
		{"a move that ends one ahead of From, far faster", p, 20, 79, 2000, []int{20, 0}, true},
		{"a move that ends just at From, far faster", p, 20, 80, 2000, []int{20, 0}, false},
		{"into it as it has to be", p, 20, 79, 2000, []int{20, 5, 5, 0}, true},
		{"into it one faster", p, 20, 79, 2000, []int{20, 6, 5, 0}, false},
		{"a move within it, at its limit", p, 20, 105, 2000, []int{5, 0}, true},
		{"a move within it, one faster", p, 20, 105, 2000, []int{6, 0}, false},
		{"a move out of it that begins just at To, at its limit", p, 20, 120, 2000, []int{5, 20, 0}, true},
		{"a move out of it that begins just at To, one faster", p, 20, 120, 2000, []int{6, 0}, false},
		{"a move that begins one beyond To", p, 20, 121, 2000, []int{6, 0}, true},
		{"a move that begins one beyond To, as fast as can be", p, 20, 121, 2000, []int{20, 0}, true},
		{"a move that begins just at To + Train, at its limit", q, 20, 135, 2000, []int{5, 20, 0}, true},
		{"a move that begins just at To + Train, one faster", q, 20, 135, 2000, []int{6, 0}, false},
		{"a move that begins one beyond To + Train", q, 20, 136, 2000, []int{6, 0}, true},
		{"a move with a train that ends one ahead of From", q, 20, 79, 2000, []int{20, 0}, true},
		{"a jump over all of it", p, 20, 0, 2000, []int{20, 40, 60, 60, 0}, false},
		{"a jump over a zone at one place", point, 20, 90, 2000, []int{20, 0}, false},
		{"a jump over a zone at one place, one faster", point, 20, 97, 2000, []int{6, 0}, false},
		{"a jump over a zone at one place, at its limit", point, 20, 97, 2000, []int{5, 0}, true},
		{"a jump from one ahead of it to one beyond, at its limit", withZones(p, impl.Zone{From: 100, To: 100, Speed: 2}), 20, 99, 2000, []int{2, 0}, true},
		{"a jump from one ahead of it to one beyond, one faster", withZones(p, impl.Zone{From: 100, To: 100, Speed: 1}), 20, 99, 2000, []int{2, 0}, false},
		{"it stands in a zone of 1", withZones(p, impl.Zone{From: 0, To: 1000, Speed: 1}), 20, 100, 2000, []int{0, 1, 0, 1, 1, 0}, true},
		{"by 2 in a zone of 1", withZones(p, impl.Zone{From: 0, To: 1000, Speed: 1}), 20, 100, 2000, []int{1, 2, 0}, false},
		{"in a zone of 60", fast, 20, 0, 2000, []int{20, 40, 60, 0}, true},
		{"one faster in a zone of 61", withZones(p, impl.Zone{From: 0, To: 1000, Speed: 61}), 20, 0, 2000, []int{20, 40, 60, 61, 0}, false},
		{"a train of MaxLen is in it to the last place", withTrain(p, impl.MaxLen), 20, 900, 2000, []int{6, 0}, false},
		{"a train of MaxLen, ahead of it", withTrain(p, impl.MaxLen), 20, 0, 2000, []int{20, 0}, true},
		{"a zone just beyond End", withZones(endingAt(level(1000, 1000), 20), impl.Zone{From: 21, To: 30, Speed: 1}), 20, 0, 0, []int{20, 0}, true},
		{"a zone just at End", withZones(endingAt(level(1000, 1000), 20), impl.Zone{From: 20, To: 30, Speed: 1}), 20, 0, 0, []int{20, 0}, false},
		{"a zone just at End, as it has to be", withZones(endingAt(level(1000, 1000), 20), impl.Zone{From: 20, To: 30, Speed: 1}), 20, 0, 0, []int{19, 1, 0}, true},
	})
}

// Which of the greatest number of zones counts must not matter.
func TestRunOkManyZones(t *testing.T) {
	for i := range impl.MaxZones {
		p := endingAt(level(1000, 1000), 1000)
		p.Zones = slices.Repeat([]impl.Zone{{From: 0, To: 1000, Speed: 15}}, impl.MaxZones)
		p.Zones[i] = impl.Zone{From: 100, To: 100, Speed: 3}
		checkRunOk(t, []runCase{
			{"at the limit of all", p, 20, 101, 2000, []int{15, 0}, true},
			{"one faster", p, 20, 101, 2000, []int{16, 0}, false},
			{"at the limit of one", p, 20, 99, 2000, []int{3, 0}, true},
			{"one faster than the limit of one", p, 20, 99, 2000, []int{4, 0}, false},
			{"ahead of the one", p, 20, 84, 2000, []int{15, 0}, true},
			{"up to the one", p, 20, 85, 2000, []int{15, 0}, false},
		})
	}
}

// drawnSpeeds is the beginning of a run and, in most, its way to a stand.
func drawnSpeeds(r *rand.Rand, p impl.Profile, acc, x int) []int {
	s := spell{x, 0}
	var speeds []int
	for range 1 + r.IntN(20) {
		next := s.next(p, acc)
		if len(next) == 0 {
			return speeds
		}
		s = next[r.IntN(len(next))]
		speeds = append(speeds, s.last)
	}
	for next := s.next(p, acc); s.last > 0 && len(next) > 0; next = s.next(p, acc) {
		s = next[len(next)-1]
		speeds = append(speeds, s.last)
	}
	return speeds
}

func TestRunOkIsTickByTick(t *testing.T) {
	r := rand.New(rand.NewPCG(4, 1))
	runs, others := 0, 0
	check := func(p impl.Profile, acc, x, short int, speeds []int) {
		got, want := impl.RunOk(p, acc, x, short, speeds), runByTicks(p, acc, x, short, speeds)
		if got != want {
			t.Fatalf("RunOk(%v, %d, %d, %d, %v) is %v, want %v", p, acc, x, short, speeds, got, want)
		}
		if got {
			runs++
		} else {
			others++
		}
	}
	for _, p := range slices.Concat(smallProfiles(), drawnWays(400, 200), drawnWays(200, 20)) {
		for range 10 {
			acc, x := 1+r.IntN(impl.MaxAcc), max(p.End-r.IntN(impl.MaxRun+1), 0)
			speeds := drawnSpeeds(r, p, acc, x)
			check(p, acc, x, impl.MaxRun, speeds)
			check(p, acc, x, r.IntN(impl.MaxRun+1), speeds)
			for i, v := range speeds {
				for _, other := range []int{v - 1, v + 1, r.IntN(70) - 5} {
					spoilt := slices.Clone(speeds)
					spoilt[i] = other
					check(p, acc, x, impl.MaxRun, spoilt)
				}
			}
		}
	}
	if runs < 1000 || others < 1000 {
		t.Errorf("%d runs and %d others", runs, others)
	}
}

func checkFastest(t *testing.T, p impl.Profile, acc, x, short int, want []int) {
	t.Helper()
	got := impl.Fastest(p, acc, x, short)
	if !got.Ok || got.Ticks != len(want) || !slices.Equal(got.Speeds, want) {
		t.Errorf("Fastest(%v, %d, %d, %d) is %v, want %v", p, acc, x, short, got, want)
	}
	if !impl.RunOk(p, acc, x, short, got.Speeds) || !runByTicks(p, acc, x, short, got.Speeds) {
		t.Errorf("Fastest(%v, %d, %d, %d) is %v, which is no run", p, acc, x, short, got)
	}
}

func TestFastestAtInputs(t *testing.T) {
	strong := endingAt(level(40, 1000), 40)
	onePlace := impl.Zone{From: 20, To: 20, Speed: 1}
	for _, c := range []struct {
		p             impl.Profile
		acc, x, short int
		want          []int
	}{
		{flat(30), 10, 0, 0, []int{10, 15, 5, 0}},
		{flat(30), 10, 0, 10, []int{10, 10, 0}},
		{flat(30), 10, 0, 9, []int{10, 15, 5, 0}},
		{flat(30), 10, 0, 11, []int{10, 10, 0}},
		{flat(30), 20, 0, 0, []int{20, 10, 0}},
		{flat(30), 20, 10, 0, []int{15, 5, 0}},
		{flat(30), 20, 20, 0, []int{10, 0}},
		{flat(30), 20, 19, 0, []int{10, 1, 0}},
		{flat(30), 20, 19, 1, []int{10, 0}},
		{flat(60), 10, 0, 0, []int{10, 20, 20, 10, 0}},
		{delayedBy(flat(30), 20), 10, 0, 0, []int{10, 15, 5, 0}},
		{withTrain(flat(30), 500), 10, 0, 0, []int{10, 15, 5, 0}},
		{endingAt(level(500, 10), 30), 10, 0, 0, []int{10, 15, 5, 0}},
		{strong, 20, 0, 0, []int{20, 20, 0}},
		{strong, 20, 0, 20, []int{20, 0}},
		{strong, 20, 0, 19, []int{20, 20, 0}},
		{strong, 20, 0, 39, []int{20, 0}},
		{strong, 20, 0, 40, nil},
		{strong, 1, 37, 0, []int{1, 2, 0}},
		{strong, 1, 36, 0, []int{1, 2, 1, 0}},
		{withZones(strong, impl.Zone{From: 20, To: 21, Speed: 1}), 20, 0, 0, []int{19, 1, 1, 1, 18, 0}},
		{withZones(strong, onePlace), 20, 0, 0, []int{19, 1, 1, 19, 0}},
		{withTrain(withZones(strong, onePlace), 3), 20, 0, 0, []int{19, 1, 1, 1, 1, 1, 16, 0}},
		{withZones(strong, onePlace), 20, 0, 20, []int{19, 1, 0}},
		{withZones(strong, onePlace), 20, 0, 21, []int{19, 0}},
	} {
		if best := bestByTicks(c.p, c.acc, c.x, c.short); !slices.Equal(best, c.want) {
			t.Errorf("%v, %d, %d, %d: the best is %v", c.p, c.acc, c.x, c.short, best)
		}
		checkFastest(t, c.p, c.acc, c.x, c.short, c.want)
	}
}

// Where it may stand short of the end, the ticks count, then the earlier speeds: how far it comes is not asked.
func TestFastestOfAsShortOnes(t *testing.T) {
	far := endingAt(level(1000, 10), 100)
	checkFastest(t, far, 10, 95, 5, nil)
	checkFastest(t, far, 10, 94, 5, []int{6, 0})
	checkFastest(t, far, 10, 94, 1, []int{6, 0})
	checkFastest(t, far, 10, 85, 5, []int{10, 0})
	checkFastest(t, far, 10, 84, 5, []int{10, 6, 0})
	checkFastest(t, far, 10, 81, 5, []int{10, 9, 0})
	checkFastest(t, far, 10, 80, 5, []int{10, 10, 0})
	checkFastest(t, far, 10, 75, 5, []int{10, 10, 0})
	checkFastest(t, far, 10, 74, 5, []int{10, 13, 3, 0})
}

// By an acc of 20 to the greatest speed, and from there, by a brake of 10, to a stand in 150: what is left over of 60 is spread so that the earlier ones are faster.
func TestFastestOnTheLongestWay(t *testing.T) {
	tail := []int{58, 48, 38, 28, 19, 9, 0}
	want := slices.Concat([]int{20, 40}, slices.Repeat([]int{60}, 29), tail)
	checkFastest(t, flat(impl.MaxRun), 20, 0, 0, want)
	checkFastest(t, flat(impl.MaxRun+500), 20, 500, 0, want)
	long := manyPieces(impl.MaxPieces, mostLen, 10)
	long = endingAt(long, lastPlace(long))
	checkFastest(t, long, 20, long.End-impl.MaxRun, 0, want)
	checkFastest(t, withZones(long, impl.Zone{From: 0, To: long.End, Speed: 60}), 20, long.End-impl.MaxRun, 0, want)
	strong := endingAt(level(impl.MaxRun, 60), impl.MaxRun)
	checkFastest(t, strong, 20, 0, 0, slices.Concat([]int{20, 40}, slices.Repeat([]int{60}, 32), []int{20, 0}))
}

func TestFastestIsTheBestOfAllThatAreTried(t *testing.T) {
	for long := 1; long <= 26; long++ {
		for _, brake := range []int{10, 13, 1000} {
			for _, acc := range someAccs() {
				for _, short := range []int{0, 1, long / 2, long - 1, long, impl.MaxRun} {
					p := endingAt(level(long, brake), long)
					checkFastest(t, p, acc, 0, short, bestByTrying(p, acc, 0, short))
				}
			}
		}
	}
	r := rand.New(rand.NewPCG(4, 2))
	for _, p := range slices.Concat(drawnWays(1500, 6), drawnWays(300, 12)) {
		x := max(p.End-2-r.IntN(12), 0)
		acc := 1 + r.IntN(impl.MaxAcc)
		for _, short := range []int{0, r.IntN(4), r.IntN(10)} {
			checkFastest(t, p, acc, x, short, bestByTrying(p, acc, x, short))
		}
	}
}

func TestFastestIsTheBestByTicks(t *testing.T) {
	r := rand.New(rand.NewPCG(4, 3))
	for _, p := range slices.Concat(drawnWays(120, 20), drawnWays(40, 60)) {
		x := max(p.End-r.IntN(160), 0)
		acc := 1 + r.IntN(impl.MaxAcc)
		for _, short := range []int{0, r.IntN(40)} {
			checkFastest(t, p, acc, x, short, bestByTicks(p, acc, x, short))
		}
	}
}

// With the strongest brake a limit may be far below the speed of the tick before it, or stand behind a gap in which a train runs up and down.
func TestFastestWithLimitsFarSlowerThanABrake(t *testing.T) {
	for _, speed := range []int{1, 2, 3, 5, 12} {
		for _, zones := range [][]impl.Zone{
			{{From: 0, To: 70, Speed: speed}},
			{{From: 30, To: 34, Speed: speed}},
			{{From: 40, To: 40, Speed: speed}, {From: 60, To: 70, Speed: speed + 3}},
			{{From: 0, To: 10, Speed: speed}, {From: 25, To: 25, Speed: 1}, {From: 50, To: 70, Speed: 2 * speed}},
		} {
			for _, brake := range []int{10, 60, 1000} {
				p := withZones(endingAt(level(80, brake), 70), zones...)
				for _, acc := range []int{1, 9, 20} {
					checkFastest(t, p, acc, 0, 0, bestByTicks(p, acc, 0, 0))
					checkFastest(t, withTrain(p, 7), acc, 20, 3, bestByTicks(withTrain(p, 7), acc, 20, 3))
				}
			}
		}
	}
}

func refused(r impl.Run) bool { return reflect.DeepEqual(r, impl.Run{}) }

func TestFastestStandsShortOfTheEnd(t *testing.T) {
	for _, p := range []impl.Profile{flat(impl.MaxRun), endingAt(level(3000, 1000), impl.MaxRun), withZones(flat(impl.MaxRun), impl.Zone{From: 0, To: impl.MaxRun, Speed: 1})} {
		for _, short := range []int{0, 1, 2, 700, impl.MaxRun - 1, impl.MaxRun} {
			x := impl.MaxRun - short
			checkFastest(t, p, 10, x, short, nil)
			if x > 0 {
				checkFastest(t, p, 10, x-1, short, []int{min(short+1, 10, impl.LimitAt(p, x)), 0})
			}
			checkFastest(t, p, 10, impl.MaxRun, short, nil)
		}
	}
}

// By 1 a run comes home in just MaxRun ticks from MaxRun - 1, and from one farther only with a move by 2, or by standing short.
func TestFastestOfMaxRunSpeeds(t *testing.T) {
	slow := func(long int) impl.Profile { return withZones(flat(long), impl.Zone{From: 0, To: long, Speed: 1}) }
	gap := func(from int) impl.Profile {
		return withZones(flat(impl.MaxRun), impl.Zone{From: 0, To: 1000, Speed: 1}, impl.Zone{From: from, To: impl.MaxRun, Speed: 1})
	}
	ones := func(n int) []int { return slices.Repeat([]int{1}, n) }
	home := append(ones(impl.MaxRun-1), 0)
	for _, acc := range []int{1, 20} {
		checkFastest(t, slow(1998), acc, 0, 0, append(ones(1998), 0))
		checkFastest(t, slow(1999), acc, 0, 0, home)
		checkFastest(t, slow(2000), acc, 1, 0, home)
		checkFastest(t, slow(2000), acc, 0, 1, home)
		checkFastest(t, slow(2000), acc, 0, 2, append(ones(1998), 0))
		checkFastest(t, slow(3000), acc, 1001, 0, home)
		checkFastest(t, gap(1004), acc, 0, 0, slices.Concat(ones(1001), []int{2}, ones(997), []int{0}))
		checkFastest(t, withTrain(gap(1900), 896), acc, 0, 0, slices.Concat(ones(1897), []int{2}, ones(101), []int{0}))
		checkFastest(t, withZones(flat(2000), impl.Zone{From: 0, To: 1997, Speed: 1}), acc, 0, 0, append(ones(1998), 2, 0))
		for _, p := range []impl.Profile{slow(2000), gap(1000), gap(1001), gap(1002), gap(1003), withTrain(gap(1004), 1), withTrain(gap(1900), 897)} {
			if got := impl.Fastest(p, acc, 0, 0); !refused(got) {
				t.Errorf("Fastest(%v, %d, 0, 0) is %v: there is none", p, acc, got)
			}
			if impl.RunOk(p, acc, 0, 0, ones(2000)) || impl.RunOk(p, acc, 0, 0, append(ones(2000), 0)) {
				t.Errorf("RunOk(%v, %d, 0, 0, ..)", p, acc)
			}
		}
		if got := impl.Fastest(slow(3000), acc, 1000, 0); !refused(got) {
			t.Errorf("%v: there is none", got)
		}
	}
}

func TestRunOkMaxRunSpeeds(t *testing.T) {
	p := flat(100)
	for n, want := range map[int]bool{0: true, 1: true, 1999: true, 2000: true, 2001: false, 2002: false, 100000: false} {
		speeds := make([]int, n)
		for x, short := range map[int]int{100: 0, 0: 100, 50: 2000} {
			if got := impl.RunOk(p, 10, x, short, speeds); got != want {
				t.Errorf("%d speeds from %d: %v, want %v", n, x, got, want)
			}
		}
	}
	late := append(make([]int, 1994), 10, 20, 30, 20, 10, 0)
	for x, want := range map[int]bool{9: false, 10: true, 11: false} {
		if got := impl.RunOk(p, 10, x, 0, late); got != want {
			t.Errorf("from %d: %v, want %v", x, got, want)
		}
		if impl.RunOk(p, 10, x, 0, append([]int{0}, late...)) {
			t.Errorf("from %d, one speed too many", x)
		}
	}
}

func sumOf(speeds []int) int {
	sum := 0
	for _, v := range speeds {
		sum += v
	}
	return sum
}

// On one piece without limits it covers just the length, and by twice the acceleration it is no slower.
func TestFastestOnOnePiece(t *testing.T) {
	check := func(long, brake, acc int) {
		p := endingAt(level(long, brake), long)
		once, twice := impl.Fastest(p, acc, 0, 0), impl.Fastest(p, 2*acc, 0, 0)
		for _, run := range []impl.Run{once, twice} {
			if !run.Ok || run.Ticks != len(run.Speeds) || sumOf(run.Speeds) != long {
				t.Fatalf("%d long, brake %d, acc %d: %v", long, brake, acc, run)
			}
		}
		if twice.Ticks > once.Ticks {
			t.Fatalf("%d long, brake %d: %d ticks by %d, %d by twice that", long, brake, once.Ticks, acc, twice.Ticks)
		}
		if !impl.RunOk(p, acc, 0, 0, once.Speeds) || !impl.RunOk(p, 2*acc, 0, 0, twice.Speeds) || !impl.RunOk(p, 2*acc, 0, 0, once.Speeds) {
			t.Fatalf("%d long, brake %d, acc %d: %v, %v", long, brake, acc, once, twice)
		}
	}
	brakes := someBrakes()
	for long := 1; long <= 400; long++ {
		check(long, brakes[long%len(brakes)], 1+long%7)
		check(long, 10+long%19, 1+long%10)
	}
	for _, long := range []int{1, 2, 59, 60, 61, 399, 400} {
		for _, brake := range []int{10, 60, 1000} {
			for acc := 1; acc <= impl.MaxAcc/2; acc++ {
				check(long, brake, acc)
			}
		}
	}
}

// Whatever lets a train do more makes no run slower.
func TestFastestWithMoreLeave(t *testing.T) {
	r := rand.New(rand.NewPCG(4, 5))
	for _, p := range slices.Concat(drawnWays(60, 40), drawnWays(60, 200)) {
		x, acc, short := max(p.End-r.IntN(impl.MaxRun), 0), 1+r.IntN(impl.MaxAcc-1), r.IntN(50)
		run := impl.Fastest(p, acc, x, short)
		if !run.Ok || !impl.RunOk(p, acc, x, short, run.Speeds) || !runByTicks(p, acc, x, short, run.Speeds) {
			t.Fatalf("Fastest(%v, %d, %d, %d) is %v", p, acc, x, short, run)
		}
		others := []impl.Run{
			impl.Fastest(p, acc+1, x, short),
			impl.Fastest(p, impl.MaxAcc, x, short),
			impl.Fastest(p, acc, x, short+1),
			impl.Fastest(p, acc, x, short+r.IntN(1000)),
			impl.Fastest(withTrain(p, p.Train/2), acc, x, short),
			impl.Fastest(withZones(p), acc, x, short),
			impl.Fastest(withZones(p, p.Zones[:len(p.Zones)/2]...), acc, x, short),
		}
		for i, other := range others {
			if !other.Ok || other.Ticks > run.Ticks {
				t.Fatalf("Fastest(%v, %d, %d, %d) is %v, with more leave (%d) it is %v", p, acc, x, short, run, i, other)
			}
		}
		if other := impl.Fastest(delayedBy(p, impl.MaxDelay-p.Delay), acc, x, short); !reflect.DeepEqual(run, other) {
			t.Fatalf("Fastest(%v, %d, %d, %d) is %v, with another delay %v", p, acc, x, short, run, other)
		}
	}
}

// refusesRuns holds that neither function takes what would be a run if its numbers were not at fault.
func refusesRuns(t *testing.T, name string, p impl.Profile, acc, x, short int) {
	t.Helper()
	for _, speeds := range [][]int{nil, {}, {0}, {1, 0}, {10, 0}, {5, 5, 0, 0}} {
		if impl.RunOk(p, acc, x, short, speeds) {
			t.Errorf("%s: RunOk(%v, %d, %d, %d, %v)", name, p, acc, x, short, speeds)
		}
	}
	if got := impl.Fastest(p, acc, x, short); !refused(got) {
		t.Errorf("%s: Fastest(%v, %d, %d, %d) is %v", name, p, acc, x, short, got)
	}
}

func TestRunsAtWrongInputs(t *testing.T) {
	long := manyPieces(impl.MaxPieces, mostLen, 10)
	long = endingAt(long, lastPlace(long)-100)
	for _, p := range []impl.Profile{threePieces(), flat(2000), endingAt(level(5000, 10), 3000), endingAt(level(100, 10), 0), long} {
		for _, short := range []int{0, 5, impl.MaxRun} {
			for _, x := range []int{p.End, max(p.End-5, 0), max(p.End-impl.MaxRun, 0)} {
				for _, acc := range beyond(1, impl.MaxAcc) {
					refusesRuns(t, "acc", p, acc, x, short)
				}
				refusesRuns(t, "an acc of -1", p, -1, x, short)
			}
			for _, x := range append(beyond(0, p.End), p.End+2, p.End+short, -impl.MaxRun, lastPlace(p)+1) {
				if x < 0 || x > p.End {
					refusesRuns(t, "x", p, 10, x, short)
				}
			}
		}
		for _, short := range beyond(0, impl.MaxRun) {
			for _, x := range []int{p.End, max(p.End-1, 0), max(p.End-impl.MaxRun, 0)} {
				refusesRuns(t, "short", p, 10, x, short)
			}
		}
	}
}

func TestRunsFartherThanMaxRun(t *testing.T) {
	long := manyPieces(impl.MaxPieces, mostLen, 10)
	for _, p := range []impl.Profile{flat(2001), endingAt(level(5000, 10), 3000), endingAt(long, lastPlace(long)), endingAt(long, mostLen)} {
		for _, short := range []int{0, 1, impl.MaxRun} {
			for _, more := range []int{1, 2, 10, p.End - impl.MaxRun} {
				refusesRuns(t, "End - x", p, 10, max(p.End-impl.MaxRun-more, 0), short)
			}
			x := p.End - impl.MaxRun
			if got := impl.RunOk(p, 10, x, short, nil); got != (short == impl.MaxRun) {
				t.Errorf("RunOk(%v, 10, %d, %d, nil) is %v", p, x, short, got)
			}
			if got := impl.Fastest(p, 10, x, short); !got.Ok || !impl.RunOk(p, 10, x, short, got.Speeds) {
				t.Errorf("Fastest(%v, 10, %d, %d) is %v", p, x, short, got)
			}
		}
	}
}

func TestRunsAtTheEndsOfTheirRanges(t *testing.T) {
	p := flat(impl.MaxRun)
	for _, acc := range []int{1, impl.MaxAcc} {
		for _, short := range []int{0, impl.MaxRun} {
			for _, x := range []int{0, impl.MaxRun} {
				got := impl.Fastest(p, acc, x, short)
				if !got.Ok || !impl.RunOk(p, acc, x, short, got.Speeds) {
					t.Errorf("Fastest(.., %d, %d, %d) is %v", acc, x, short, got)
				}
			}
		}
	}
}

func TestRunsOnWrongProfiles(t *testing.T) {
	for _, f := range profileFaults() {
		p := threePieces()
		f.spoil(&p)
		for _, x := range []int{0, 1, 100, 180, 200, -1, math.MinInt, math.MaxInt} {
			refusesRuns(t, f.name, p, 10, x, impl.MaxRun)
			refusesRuns(t, f.name, p, 10, x, 0)
		}
	}
}

func TestRunArgumentsAreNotWritten(t *testing.T) {
	for _, p := range alsoSpoilt(slices.Concat(smallProfiles(), drawnWays(60, 100))) {
		all := []int{5, 9, 0, 7, 0, 77, 77}
		checkUnwritten(t, p, func(p impl.Profile) []any {
			return []any{impl.RunOk(p, 10, 0, impl.MaxRun, all[:5]), impl.RunOk(p, 1, 0, 5, all[:5]), impl.Fastest(p, 7, 0, 3), impl.Fastest(p, 7, 1, impl.MaxRun)}
		})
		if !slices.Equal(all, []int{5, 9, 0, 7, 0, 77, 77}) {
			t.Errorf("the speeds became %v", all)
		}
	}
}

func TestRunAnswersAreNewMemory(t *testing.T) {
	p := withZones(endingAt(threePieces(), 200), impl.Zone{From: 0, To: 50, Speed: 7})
	before := impl.Profile{Pieces: slices.Clone(p.Pieces), Zones: slices.Clone(p.Zones), Train: p.Train, End: p.End, Delay: p.Delay}
	first := impl.Fastest(p, 10, 0, 0)
	want := slices.Clone(first.Speeds)
	second := impl.Fastest(p, 10, 0, 0)
	for i := range first.Speeds {
		first.Speeds[i] = 99
	}
	if !slices.Equal(second.Speeds, want) || !slices.Equal(impl.Fastest(p, 10, 0, 0).Speeds, want) {
		t.Errorf("the speeds became %v, want %v", second.Speeds, want)
	}
	if !reflect.DeepEqual(p, before) {
		t.Errorf("the profile became %v", p)
	}
	p.Zones[0].Speed = 1
	p.Pieces[0].Brake = 11
	if !slices.Equal(second.Speeds, want) {
		t.Errorf("the speeds became %v with the profile, want %v", second.Speeds, want)
	}
}
