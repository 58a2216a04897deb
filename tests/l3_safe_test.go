package tests

import (
	"iter"
	"math"
	"math/rand/v2"
	"reflect"
	"slices"
	"testing"

	"loop.example/sprag/impl"
)

type move struct{ begin, end int }

func (m move) speed() int { return m.end - m.begin }

// brakeByPieces goes from piece to piece, so that the search is held against something else.
func brakeByPieces(p impl.Profile, x int) int {
	for _, piece := range p.Pieces {
		if x < piece.Len {
			return piece.Brake
		}
		x -= piece.Len
	}
	return p.Pieces[len(p.Pieces)-1].Brake
}

// movesAlone goes through all moves, until it stands, of a train that moves by v at x and that nobody drives from then on, tick by tick as the document's words do, wherever it comes.
func movesAlone(p impl.Profile, x, v int) iter.Seq[move] {
	return func(yield func(move) bool) {
		last := move{}
		goBy := func(v int) bool {
			last = move{x, x + v}
			x += v
			return yield(last)
		}
		for range 1 + p.Delay {
			if !goBy(v) {
				return
			}
		}
		for v > 0 {
			v -= brakeByPieces(p, last.begin)
			if v < 0 {
				v = 0
			}
			if !goBy(v) {
				return
			}
		}
	}
}

// keepsTo holds a move against the end and against each zone that it touches.
func keepsTo(p impl.Profile, m move) bool {
	for _, zone := range p.Zones {
		if zone.From <= m.end && zone.To+p.Train >= m.begin && m.speed() > zone.Speed {
			return false
		}
	}
	return m.end <= p.End
}

func safeByTicks(p impl.Profile, x, v int) bool {
	for m := range movesAlone(p, x, v) {
		if !keepsTo(p, m) {
			return false
		}
	}
	return true
}

func mostByTrying(p impl.Profile, x int) int {
	v := 0
	for v <= impl.MaxSpeed && safeByTicks(p, x, v) {
		v++
	}
	return v - 1
}

func watchByTicks(p impl.Profile, x, v int, wants []int) impl.Watched {
	out := impl.Watched{Ok: true, At: x}
	began, speed, same := x, v, 0
	for i, want := range wants {
		if want >= 0 && want <= impl.MaxSpeed && safeByTicks(p, out.At, want) {
			speed, same = want, 0
		} else {
			out.Braked++
			if i == 0 {
				speed, same = v, 0
			} else if same < p.Delay {
				same++
			} else {
				speed = max(speed-brakeByPieces(p, began), 0)
			}
		}
		began = out.At
		out.At += speed
		out.Speeds = append(out.Speeds, speed)
	}
	return out
}

func endingAt(p impl.Profile, end int) impl.Profile {
	p.End = end
	return p
}

func delayedBy(p impl.Profile, delay int) impl.Profile {
	p.Delay = delay
	return p
}

func withTrain(p impl.Profile, long int) impl.Profile {
	p.Train = long
	return p
}

// flat is one piece with a brake of 10 that ends at its last place.
func flat(long int) impl.Profile { return endingAt(level(long, 10), long) }

func twoPieces(first, second, end int) impl.Profile {
	return endingAt(impl.Profile{Pieces: []impl.Piece{{Len: 100, Brake: first}, {Len: 400, Brake: second}}}, end)
}

// drawnProfile is right; half of them have a train, half a delay, and their zones are now ones that hold a train up, now ones that do not.
func drawnProfile(r *rand.Rand, mostPiece int) impl.Profile {
	brakes := []int{10, 11, 20, 37, 100, 333, 1000}
	p := impl.Profile{Train: r.IntN(2) * r.IntN(200), Delay: r.IntN(2) * r.IntN(impl.MaxDelay+1)}
	for range 1 + r.IntN(8) {
		p.Pieces = append(p.Pieces, impl.Piece{Len: 1 + r.IntN(mostPiece), Brake: brakes[r.IntN(len(brakes))]})
	}
	last := lastPlace(p)
	for range r.IntN(6) {
		from := r.IntN(last + 1)
		p.Zones = append(p.Zones, impl.Zone{From: from, To: from + r.IntN(min(last/10, last-from)+1), Speed: 1 + r.IntN(30+r.IntN(300))})
	}
	p.End = last - r.IntN(last/4+1)
	return p
}

func drawnProfiles(n, mostPiece int) []impl.Profile {
	r := rand.New(rand.NewPCG(uint64(n), uint64(mostPiece)))
	var out []impl.Profile
	for range n {
		out = append(out, drawnProfile(r, mostPiece))
	}
	return out
}

func TestDrawnProfilesAreRight(t *testing.T) {
	for _, p := range slices.Concat(drawnProfiles(300, 400), drawnProfiles(300, 20), drawnProfiles(40, mostLen)) {
		if impl.ProfileOk(p) != 0 {
			t.Errorf("%v: %d", p, impl.ProfileOk(p))
		}
	}
}

type safeCase struct {
	name string
	p    impl.Profile
	x, v int
	want bool
}

func checkSafe(t *testing.T, cases []safeCase) {
	t.Helper()
	for _, c := range cases {
		if got := impl.Safe(c.p, c.x, c.v); got != c.want {
			t.Errorf("%s: Safe(%v, %d, %d) is %v, want %v", c.name, c.p, c.x, c.v, got, c.want)
		}
	}
}

func TestSafeAtTheEnd(t *testing.T) {
	checkSafe(t, []safeCase{
		{"it stands just at End", flat(60), 0, 30, true},
		{"it comes one beyond", flat(59), 0, 30, false},
		{"one faster", flat(60), 0, 31, false},
		{"one slower", flat(60), 0, 29, true},
		{"from one farther", flat(60), 1, 30, false},
		{"with a rest, just at End", flat(80), 0, 35, true},
		{"with a rest, one beyond", flat(79), 0, 35, false},
		{"an End ahead of the last place", endingAt(level(1000, 10), 60), 0, 30, true},
		{"one beyond End, not beyond the last place", endingAt(level(1000, 10), 59), 0, 30, false},
		{"the first move alone comes beyond End", endingAt(level(1000, 10), 60), 0, 61, false},
		{"just to End, and on from there", endingAt(level(1000, 10), 60), 0, 60, false},
		{"just to End, where the brake is enough", endingAt(level(1000, 60), 60), 0, 60, true},
		{"there, one faster", endingAt(level(1000, 1000), 60), 0, 61, false},
		{"a speed of 1 just ahead of End", flat(60), 59, 1, true},
		{"a speed of 2 just ahead of End", flat(60), 59, 2, false},
		{"a speed of 0 at End", endingAt(level(100, 10), 60), 60, 0, true},
		{"a speed of 1 at End", endingAt(level(100, 10), 60), 60, 1, false},
		{"a speed of 0 one beyond End", endingAt(level(100, 10), 60), 61, 0, false},
		{"a speed of 1 one beyond End", endingAt(level(100, 10), 60), 61, 1, false},
		{"a speed of 0 at the last place, far beyond End", endingAt(level(100, 10), 0), 100, 0, false},
		{"a speed of 0 at an End of 0", endingAt(level(100, 10), 0), 0, 0, true},
		{"a speed of 1 at an End of 0", endingAt(level(100, 10), 0), 0, 1, false},
		{"the length of the train has no part in it", withTrain(flat(60), 1000), 0, 30, true},
	})
}

func TestSafeWithDelay(t *testing.T) {
	cases := []safeCase{
		{"a speed of 0 at End", delayedBy(flat(60), 20), 60, 0, true},
		{"a speed of 1 at End", delayedBy(flat(60), 20), 60, 1, false},
		{"a speed of 1, 21 ahead of End", delayedBy(flat(60), 20), 39, 1, true},
		{"a speed of 1, 20 ahead of End", delayedBy(flat(60), 20), 40, 1, false},
	}
	for delay := range impl.MaxDelay + 1 {
		cases = append(cases,
			safeCase{"just at End", delayedBy(flat(60+30*delay), delay), 0, 30, true},
			safeCase{"one beyond", delayedBy(flat(59+30*delay), delay), 0, 30, false})
	}
	checkSafe(t, cases)
}

func TestSafeAtMaxSpeed(t *testing.T) {
	p := manyPieces(4, mostLen, impl.MinBrake)
	checkSafe(t, []safeCase{
		{"just at End", endingAt(p, 5005000), 0, impl.MaxSpeed, true},
		{"one beyond", endingAt(p, 5004999), 0, impl.MaxSpeed, false},
		{"just at End, by the greatest delay", delayedBy(endingAt(p, 5205000), 20), 0, impl.MaxSpeed, true},
		{"one beyond, by the greatest delay", delayedBy(endingAt(p, 5204999), 20), 0, impl.MaxSpeed, false},
		{"on the greatest profile", endingAt(manyPieces(60, mostLen, 10), 60*mostLen), 60*mostLen - 5005000, impl.MaxSpeed, true},
		{"there, from one farther", endingAt(manyPieces(60, mostLen, 10), 60*mostLen), 60*mostLen - 5004999, impl.MaxSpeed, false},
	})
}

// The brake is that of the place at which the last move began: neither that of the place at which the train is, nor that of where the brake was asked for.
func TestSafeWhosePlacesBrakeCounts(t *testing.T) {
	checkSafe(t, []safeCase{
		{"into a stronger brake: 20, 10, 0", twoPieces(10, 50, 120), 90, 20, true},
		{"into a stronger brake, one beyond", twoPieces(10, 50, 119), 90, 20, false},
		{"into a weaker brake: 60, 10, 0", twoPieces(50, 10, 160), 90, 60, true},
		{"into a weaker brake, one beyond", twoPieces(50, 10, 159), 90, 60, false},
		{"into a weaker brake: 70, 20, 10, 0", twoPieces(50, 10, 190), 90, 70, true},
		{"into a weaker brake, again one beyond", twoPieces(50, 10, 189), 90, 70, false},
		{"from between the two: 60, 10, 0", twoPieces(10, 50, 170), 100, 60, true},
		{"from between the two, one beyond", twoPieces(10, 50, 169), 100, 60, false},
		{"from one ahead of it: 60, 50, 0", twoPieces(10, 50, 209), 99, 60, true},
		{"from one ahead of it, one beyond", twoPieces(10, 50, 208), 99, 60, false},
		{"the last move of a delay begins between the two: 20, 20, 0", delayedBy(twoPieces(10, 50, 120), 1), 80, 20, true},
		{"there, one beyond", delayedBy(twoPieces(10, 50, 119), 1), 80, 20, false},
		{"it begins one ahead of it: 20, 20, 10, 0", delayedBy(twoPieces(10, 50, 129), 1), 79, 20, true},
		{"there, again one beyond", delayedBy(twoPieces(10, 50, 128), 1), 79, 20, false},
	})
}

// One zone from 100 to 120 by 20: with a train of 15 it is touched until 135.
func TestSafeOneZone(t *testing.T) {
	zone := impl.Zone{From: 100, To: 120, Speed: 20}
	p := withZones(flat(1000), zone)
	q := withTrain(p, 15)
	point := withZones(flat(1000), impl.Zone{From: 100, To: 100, Speed: 20})
	checkSafe(t, []safeCase{
		{"a move that ends just at From, too fast", p, 70, 30, false},
		{"a move that ends one ahead of From, and then just fast enough", p, 69, 30, true},
		{"a move that ends one beyond From, too fast", p, 71, 30, false},
		{"a move that ends just at From, at its limit", p, 80, 20, true},
		{"a move that ends just at From, one faster", p, 79, 21, false},
		{"a move that ends one ahead of it, one faster", p, 78, 21, true},
		{"a move that begins at From, at its limit", p, 100, 20, true},
		{"a move that begins at From, one faster", p, 100, 21, false},
		{"a move within it, at its limit", p, 105, 20, true},
		{"a move within it, one faster", p, 105, 21, false},
		{"a move that begins just at To, one faster", p, 120, 21, false},
		{"a move that begins one beyond To", p, 121, 21, true},
		{"a move that begins just at To + Train, at its limit", q, 135, 20, true},
		{"a move that begins just at To + Train, one faster", q, 135, 21, false},
		{"a move that begins one beyond To + Train", q, 136, 21, true},
		{"a move that begins far beyond it, far faster", q, 400, 100, true},
		{"a move over all of it, too fast", p, 50, 100, false},
		{"a move over all of it and the train, too fast", q, 50, 100, false},
		{"a move over a zone at one place, one faster", point, 90, 21, false},
		{"a move over a zone at one place, at its limit", point, 90, 20, true},
		{"a later move over all of it, too fast: from 90 to 120 by 30", point, 0, 50, false},
		{"a later move over all of it, at its limit", withZones(flat(1000), impl.Zone{From: 100, To: 101, Speed: 30}), 0, 50, true},
		{"a later move over all of it, one faster", withZones(flat(1000), impl.Zone{From: 100, To: 101, Speed: 29}), 0, 50, false},
		{"slowed down in time: 40, 30, 20", p, 29, 40, true},
		{"slowed down one too late", p, 30, 40, false},
		{"in the ticks of a delay, too fast", delayedBy(p, 2), 25, 25, false},
		{"behind the ticks of a delay, slow enough", delayedBy(p, 2), 24, 25, true},
		{"a speed of 0 in a zone", withZones(flat(1000), impl.Zone{From: 0, To: 1000, Speed: 1}), 500, 0, true},
		{"a zone of 1, at its limit", withZones(flat(1000), impl.Zone{From: 0, To: 1000, Speed: 1}), 500, 1, true},
		{"a zone of 1, one faster", withZones(flat(1000), impl.Zone{From: 0, To: 1000, Speed: 1}), 500, 2, false},
		{"a train of MaxLen is in it to the last place", withTrain(p, impl.MaxLen), 900, 21, false},
		{"a train of MaxLen, ahead of it", withTrain(p, impl.MaxLen), 0, 21, true},
	})
}

func TestSafeManyZones(t *testing.T) {
	over := withZones(flat(1000), impl.Zone{From: 100, To: 200, Speed: 30}, impl.Zone{From: 150, To: 160, Speed: 10})
	back := withZones(flat(1000), over.Zones[1], over.Zones[0])
	alike := withZones(flat(1000), impl.Zone{From: 100, To: 200, Speed: 30}, impl.Zone{From: 100, To: 110, Speed: 20}, impl.Zone{From: 100, To: 300, Speed: 40})
	var cases []safeCase
	for _, p := range []impl.Profile{over, back} {
		cases = append(cases,
			safeCase{"the outer zone's limit", p, 100, 30, false},
			safeCase{"into the inner one, too fast", p, 120, 30, false},
			safeCase{"into the inner one, slowed down in time", p, 120, 20, true},
			safeCase{"into the inner one, from one farther", p, 130, 20, false},
			safeCase{"behind the inner one, the outer one's limit", p, 161, 30, true},
			safeCase{"behind the inner one, one faster", p, 161, 31, false},
			safeCase{"behind both", p, 201, 31, true})
	}
	cases = append(cases,
		safeCase{"the least of three that begin alike", alike, 90, 20, true},
		safeCase{"the least of three that begin alike, one faster", alike, 90, 21, false},
		safeCase{"behind the least, the second", alike, 111, 30, true},
		safeCase{"behind the least, the second, one faster", alike, 111, 31, false},
		safeCase{"behind two, the third", alike, 201, 40, true},
		safeCase{"behind two, the third, one faster", alike, 201, 41, false},
		safeCase{"no zones", withZones(flat(5000)), 0, 300, true},
		safeCase{"nil for zones", flat(5000), 0, 300, true},
		safeCase{"a zone just beyond End", withZones(endingAt(level(1000, 10), 60), impl.Zone{From: 61, To: 100, Speed: 1}), 0, 30, true},
		safeCase{"a zone far beyond End", withZones(endingAt(level(1000, 10), 60), impl.Zone{From: 900, To: 900, Speed: 1}), 0, 30, true},
		safeCase{"a zone just at End", withZones(endingAt(level(1000, 10), 60), impl.Zone{From: 60, To: 100, Speed: 10}), 0, 30, true},
		safeCase{"a zone just at End, too fast", withZones(endingAt(level(1000, 10), 60), impl.Zone{From: 60, To: 100, Speed: 9}), 0, 30, false})
	checkSafe(t, cases)
}

// Which of the greatest number of zones counts must not matter.
func TestSafeMaxZones(t *testing.T) {
	for i := range impl.MaxZones {
		p := flat(1000)
		p.Zones = slices.Repeat([]impl.Zone{{From: 0, To: 1000, Speed: 50}}, impl.MaxZones)
		p.Zones[i] = impl.Zone{From: 100, To: 100, Speed: 1}
		checkSafe(t, []safeCase{
			{"at the limit of all", p, 101, 50, true},
			{"one faster", p, 101, 51, false},
			{"at the limit of one", p, 99, 1, true},
			{"faster than the limit of one", p, 99, 2, false},
		})
	}
}

func TestSafeIsTickByTick(t *testing.T) {
	for _, p := range slices.Concat(smallProfiles(), drawnProfiles(150, 20), drawnProfiles(60, 400)) {
		last := lastPlace(p)
		for _, end := range []int{p.End, last} {
			p.End = end
			for x := 0; x <= last; x += 1 + last/60 {
				for v := 0; v <= 1500; v += 1 + v/25 {
					if got, want := impl.Safe(p, x, v), safeByTicks(p, x, v); got != want {
						t.Fatalf("Safe(%v, %d, %d) is %v, want %v", p, x, v, got, want)
					}
				}
			}
		}
	}
}

func TestSafeIsTickByTickOnLongWays(t *testing.T) {
	for _, p := range drawnProfiles(40, mostLen) {
		for i := range p.Zones {
			p.Zones[i].Speed = 1 + p.Zones[i].Speed*29
		}
		for i := range 20 {
			x := p.End - p.End/20*i - i
			if i%2 == 1 {
				x = max(p.End-i*i*i*700, 0)
			}
			for _, v := range append(someSpeeds(), 3000, 4444, 6000, 7777) {
				if got, want := impl.Safe(p, x, v), safeByTicks(p, x, v); got != want {
					t.Fatalf("Safe(%v, %d, %d) is %v, want %v", p, x, v, got, want)
				}
			}
		}
	}
}

func TestMostNowAtInputs(t *testing.T) {
	zone := withTrain(withZones(flat(1000), impl.Zone{From: 100, To: 120, Speed: 20}), 15)
	long := manyPieces(4, mostLen, impl.MinBrake)
	for _, c := range []struct {
		name    string
		p       impl.Profile
		x, want int
	}{
		{"just at End", flat(60), 0, 30},
		{"one less room", flat(59), 0, 29},
		{"one more room", flat(61), 0, 30},
		{"a delay of 1", delayedBy(flat(90), 1), 0, 30},
		{"a delay of 20", delayedBy(flat(660), 20), 0, 30},
		{"a delay of 20, one less room", delayedBy(flat(659), 20), 0, 29},
		{"at End", flat(60), 60, 0},
		{"one ahead of End", flat(60), 59, 1},
		{"one beyond End", endingAt(level(100, 10), 60), 61, -1},
		{"at the last place, beyond End", endingAt(level(100, 10), 60), 100, -1},
		{"far beyond End, on another piece", twoPieces(10, 50, 0), 500, -1},
		{"an End of 0", endingAt(level(100, 10), 0), 0, 0},
		{"far ahead of a zone: 43, 33 and 23 come to 99", zone, 0, 43},
		{"to just ahead of a zone, then at its limit", zone, 69, 30},
		{"one farther", zone, 70, 29},
		{"in a zone", zone, 110, 20},
		{"just at To + Train", zone, 135, 20},
		{"one beyond To + Train", zone, 136, impl.MostNow(flat(1000), 136)},
		{"MaxSpeed just fits in", endingAt(long, 5005000), 0, impl.MaxSpeed},
		{"MaxSpeed just does not", endingAt(long, 5004999), 0, impl.MaxSpeed - 1},
		{"MaxSpeed and more would fit in", endingAt(long, 6000000), 0, impl.MaxSpeed},
		{"MaxSpeed with a delay of 20", delayedBy(endingAt(long, 5205000), 20), 0, impl.MaxSpeed},
		{"a zone of MaxSpeed", withZones(endingAt(long, 6000000), impl.Zone{From: 0, To: 6000000, Speed: impl.MaxSpeed}), 0, impl.MaxSpeed},
		{"a zone of one less", withZones(endingAt(long, 6000000), impl.Zone{From: 0, To: 6000000, Speed: impl.MaxSpeed - 1}), 0, impl.MaxSpeed - 1},
		{"a zone of 1", withZones(endingAt(long, 6000000), impl.Zone{From: 0, To: 0, Speed: 1}), 0, 1},
	} {
		if got := impl.MostNow(c.p, c.x); got != c.want {
			t.Errorf("%s: MostNow(%v, %d) is %d, want %d", c.name, c.p, c.x, got, c.want)
		}
	}
}

// From 0 the faster one begins its second move just where the strong brake does: by 100, 90 it stands at 190, while one by 99, 89, 79 comes to 267; by 73, 63, 53 it stands at 189.
func TestFasterMayBeSafeWhereSlowerIsNot(t *testing.T) {
	p := twoPieces(10, 1000, 190)
	checkSafe(t, []safeCase{
		{"the greatest such that all below are safe", p, 0, 73, true},
		{"one more", p, 0, 74, false},
		{"the slower one", p, 0, 99, false},
		{"the faster one", p, 0, 100, true},
		{"one faster still", p, 0, 101, false},
	})
	if got := impl.MostNow(p, 0); got != 73 {
		t.Errorf("MostNow is %d, want 73", got)
	}
	safeAbove := 0
	for _, p := range drawnProfiles(200, 100) {
		for x := 0; x <= p.End; x += 1 + p.End/10 {
			most := impl.MostNow(p, x)
			for v := most + 1; v < most+200; v++ {
				if safeByTicks(p, x, v) {
					safeAbove++
					break
				}
			}
		}
	}
	if safeAbove < 20 {
		t.Errorf("only %d of the drawn places have speeds that are safe above one that is not", safeAbove)
	}
}

// A limit that only the slower train comes to too fast: the zone lies where the faster one has begun to brake harder.
func TestFasterMayBeSafeAtAZone(t *testing.T) {
	p := withZones(twoPieces(10, 1000, 500), impl.Zone{From: 191, To: 300, Speed: 60})
	checkSafe(t, []safeCase{
		{"the slower one", p, 0, 99, false},
		{"the faster one", p, 0, 100, true},
	})
	if got, want := impl.MostNow(p, 0), mostByTrying(p, 0); got != want || got >= 99 {
		t.Errorf("MostNow is %d, want %d", got, want)
	}
}

func checkMost(t *testing.T, p impl.Profile, x int) {
	t.Helper()
	got := impl.MostNow(p, x)
	if want := mostByTrying(p, x); got != want {
		t.Fatalf("MostNow(%v, %d) is %d, want %d", p, x, got, want)
	}
	for v := range got + 1 {
		if !impl.Safe(p, x, v) {
			t.Fatalf("MostNow(%v, %d) is %d, but %d is not safe", p, x, got, v)
		}
	}
	if impl.Safe(p, x, got+1) {
		t.Fatalf("MostNow(%v, %d) is %d, but one more is safe", p, x, got)
	}
}

func TestMostNowIsTheGreatest(t *testing.T) {
	for _, p := range slices.Concat(smallProfiles(), drawnProfiles(150, 20), drawnProfiles(80, 400)) {
		last := lastPlace(p)
		for _, end := range []int{p.End, last, last / 2} {
			for x := 0; x <= last; x += 1 + last/50 {
				checkMost(t, endingAt(p, end), x)
			}
		}
	}
}

func TestMostNowOnLongWays(t *testing.T) {
	for i, p := range drawnProfiles(30, 300000) {
		if i%2 == 0 {
			p.Zones = nil
		}
		checkMost(t, p, 0)
		checkMost(t, p, p.End/2)
		checkMost(t, p, max(p.End-40000, 0))
	}
}

// Where all pieces brake alike it is what chapter 1 says, with one tick more at the whole speed.
func TestMostNowIsMostSpeed(t *testing.T) {
	for _, b := range someBrakes() {
		p := manyPieces(5, mostLen, b)
		for _, delay := range someDelays() {
			if delay == impl.MaxDelay {
				continue
			}
			for _, room := range []int{0, 1, 9, 10, 11, 100, 1001, 12345, 100000, 999999, 5000000} {
				p.End, p.Delay = room+3, delay
				if got, want := impl.MostNow(p, 3), impl.MostSpeed(room, 0, b, delay+1); got != want {
					t.Errorf("brake %d, delay %d, room %d: %d, want %d", b, delay, room, got, want)
				}
			}
		}
	}
}

func TestSafeAtWrongInputs(t *testing.T) {
	for _, p := range append(smallProfiles(), endingAt(manyPieces(impl.MaxPieces, mostLen, impl.MaxBrake), 60*mostLen)) {
		last := lastPlace(p)
		for _, x := range append(beyond(0, last), -last, last+2) {
			if got := impl.MostNow(p, x); got != -1 {
				t.Errorf("MostNow(%v, %d) is %d, want -1", p, x, got)
			}
			for _, v := range []int{0, 1, impl.MaxSpeed, -1, impl.MaxSpeed + 1, math.MinInt, math.MaxInt} {
				if impl.Safe(p, x, v) {
					t.Errorf("Safe(%v, %d, %d)", p, x, v)
				}
				if got := impl.Watch(p, x, v, []int{0}); !reflect.DeepEqual(got, impl.Watched{}) {
					t.Errorf("Watch(%v, %d, %d, ..) is %v", p, x, v, got)
				}
			}
		}
		for _, v := range beyond(0, impl.MaxSpeed) {
			for _, x := range []int{0, p.End, last} {
				if impl.Safe(p, x, v) {
					t.Errorf("Safe(%v, %d, %d)", p, x, v)
				}
				if got := impl.Watch(p, x, v, []int{0}); !reflect.DeepEqual(got, impl.Watched{}) {
					t.Errorf("Watch(%v, %d, %d, ..) is %v", p, x, v, got)
				}
			}
		}
	}
}

func TestSafeOnWrongProfiles(t *testing.T) {
	for _, f := range profileFaults() {
		p := threePieces()
		f.spoil(&p)
		for _, x := range []int{0, 1, 100, 180, 200, 201, -1, math.MinInt, math.MaxInt} {
			if impl.Safe(p, x, 0) || impl.Safe(p, x, 1) || impl.Safe(p, x, -1) {
				t.Errorf("%s: Safe(%v, %d, ..)", f.name, p, x)
			}
			if got := impl.MostNow(p, x); got != -1 {
				t.Errorf("%s: MostNow(%v, %d) is %d, want -1", f.name, p, x, got)
			}
			for _, wants := range [][]int{nil, {0}, {5, 5}} {
				if got := impl.Watch(p, x, 0, wants); !reflect.DeepEqual(got, impl.Watched{}) {
					t.Errorf("%s: Watch(%v, %d, 0, %v) is %v", f.name, p, x, wants, got)
				}
			}
		}
		for _, step := range []int{1, 10, 180, 1000, math.MaxInt, 0, -1, math.MinInt} {
			if got := impl.Curve(p, step); len(got) != 0 {
				t.Errorf("%s: Curve(%v, %d) is %v", f.name, p, step, got)
			}
		}
	}
}

// What bounds a train more must let it do no more: each is held against the profile without it.
func TestWhatWasSafeStaysSafe(t *testing.T) {
	r := rand.New(rand.NewPCG(5, 5))
	for _, p := range slices.Concat(drawnProfiles(120, 400), drawnProfiles(120, 30)) {
		last := lastPlace(p)
		from := r.IntN(last + 1)
		more := p
		more.Zones = append(slices.Clone(p.Zones), impl.Zone{From: from, To: from + r.IntN(last-from+1), Speed: 1 + r.IntN(200)})
		narrower := []impl.Profile{
			more,
			withTrain(p, p.Train+1),
			withTrain(p, p.Train+r.IntN(300)),
			withTrain(p, impl.MaxLen),
			endingAt(p, max(p.End-1, 0)),
			endingAt(p, r.IntN(p.End+1)),
			endingAt(p, 0),
		}
		for x := 0; x <= last; x += 1 + last/25 {
			for i, q := range narrower {
				for v := 0; v < 600; v += 1 + v/20 {
					if impl.Safe(q, x, v) && !impl.Safe(p, x, v) {
						t.Fatalf("narrower %d: %d is safe at %d of %v, not of %v", i, v, x, q, p)
					}
				}
				if got, without := impl.MostNow(q, x), impl.MostNow(p, x); got > without {
					t.Fatalf("narrower %d: MostNow at %d of %v is %d, of %v %d", i, x, q, got, p, without)
				}
			}
		}
	}
}

func TestCurveAtInputs(t *testing.T) {
	p := flat(60)
	for _, c := range []struct {
		name string
		p    impl.Profile
		step int
		want []impl.Point
	}{
		{"to End in two steps", p, 30, []impl.Point{{At: 0, Speed: 30}, {At: 30, Speed: 20}, {At: 60, Speed: 0}}},
		{"a step that does not come to End", p, 40, []impl.Point{{At: 0, Speed: 30}, {At: 40, Speed: 15}}},
		{"a step of End", p, 60, []impl.Point{{At: 0, Speed: 30}, {At: 60, Speed: 0}}},
		{"a step one below End", p, 59, []impl.Point{{At: 0, Speed: 30}, {At: 59, Speed: 1}}},
		{"a step one above End", p, 61, []impl.Point{{At: 0, Speed: 30}}},
		{"a step far above every place", p, math.MaxInt, []impl.Point{{At: 0, Speed: 30}}},
		{"an End ahead of the last place", endingAt(level(1000, 10), 60), 30, []impl.Point{{At: 0, Speed: 30}, {At: 30, Speed: 20}, {At: 60, Speed: 0}}},
		{"an End of 0, a step of 1", endingAt(p, 0), 1, []impl.Point{{}}},
		{"an End of 0, a step of 7", endingAt(p, 0), 7, []impl.Point{{}}},
		{"an End of 0, a step far above", endingAt(p, 0), math.MaxInt, []impl.Point{{}}},
		{"a step of 0", p, 0, nil},
		{"a step of -1", p, -1, nil},
		{"a step of -30", p, -30, nil},
		{"a step of 0, an End of 0", endingAt(p, 0), 0, nil},
		{"a step of -1, an End of 0", endingAt(p, 0), -1, nil},
		{"the least int for a step", p, math.MinInt, nil},
	} {
		got := impl.Curve(c.p, c.step)
		if len(got) != len(c.want) || len(got) > 0 && !reflect.DeepEqual(got, c.want) {
			t.Errorf("%s: %v, want %v", c.name, got, c.want)
		}
	}
}

func TestCurveLengths(t *testing.T) {
	for _, c := range []struct{ end, step, want int }{
		{0, 1, 1}, {1, 1, 2}, {1, 2, 1}, {199, 1, 200}, {200, 1, 201}, {201, 1, 0}, {1000, 1, 0},
		{400, 2, 201}, {401, 2, 201}, {402, 2, 0}, {403, 2, 0},
		{1000, 5, 201}, {1004, 5, 201}, {1005, 5, 0}, {1000, 4, 0},
		{1399, 7, 200}, {1400, 7, 201}, {1406, 7, 201}, {1407, 7, 0},
	} {
		if got := len(impl.Curve(endingAt(level(2000, 10), c.end), c.step)); got != c.want {
			t.Errorf("End %d, step %d: %d points, want %d", c.end, c.step, got, c.want)
		}
	}
}

func checkCurve(t *testing.T, p impl.Profile, step int) {
	t.Helper()
	points := impl.Curve(p, step)
	if want := p.End/step + 1; len(points) != want {
		t.Fatalf("Curve(%v, %d) has %d points, want %d", p, step, len(points), want)
	}
	for i, point := range points {
		if want := (impl.Point{At: i * step, Speed: impl.MostNow(p, i*step)}); point != want {
			t.Fatalf("Curve(%v, %d): %v, want %v", p, step, point, want)
		}
		if point.Speed < 0 || point.At == p.End && point.Speed != 0 {
			t.Fatalf("Curve(%v, %d): %v", p, step, point)
		}
	}
}

func TestCurveIsMostNow(t *testing.T) {
	for _, p := range slices.Concat(smallProfiles(), drawnProfiles(60, 25), drawnProfiles(40, 400)) {
		for _, step := range []int{1, 2, 7, p.End / 200, p.End/200 + 1, p.End / 3, p.End, p.End + 1} {
			if step >= 1 && p.End/step <= 200 {
				checkCurve(t, p, step)
			}
		}
	}
}

func TestCurveOnTheGreatestProfile(t *testing.T) {
	p := manyPieces(impl.MaxPieces, mostLen, impl.MinBrake)
	p.End, p.Delay, p.Train = lastPlace(p)/200*200, impl.MaxDelay, impl.MaxLen
	for i := range impl.MaxZones {
		p.Zones = append(p.Zones, impl.Zone{From: i * mostLen, To: i*mostLen + i, Speed: impl.MaxSpeed - 50*i})
	}
	points := impl.Curve(p, p.End/200)
	if len(points) != 201 || points[200] != (impl.Point{At: p.End, Speed: 0}) {
		t.Fatalf("%d points, the last one %v", len(points), points[len(points)-1])
	}
	for _, point := range points {
		if !safeByTicks(p, point.At, point.Speed) || safeByTicks(p, point.At, point.Speed+1) {
			t.Errorf("%v", point)
		}
	}
}

func checkWatch(t *testing.T, p impl.Profile, x, v int, wants []int) impl.Watched {
	t.Helper()
	got := impl.Watch(p, x, v, wants)
	want := watchByTicks(p, x, v, wants)
	if len(got.Speeds) != len(wants) || !slices.Equal(got.Speeds, want.Speeds) || got.Ok != want.Ok || got.Braked != want.Braked || got.At != want.At {
		t.Fatalf("Watch(%v, %d, %d, %v) is %v, want %v", p, x, v, wants, got, want)
	}
	at := x
	for i, speed := range got.Speeds {
		m := move{at, at + speed}
		if speed < 0 || !keepsTo(p, m) {
			t.Fatalf("Watch(%v, %d, %d, %v) is %v: tick %d from %d to %d", p, x, v, wants, got, i, m.begin, m.end)
		}
		at = m.end
	}
	if at != got.At {
		t.Fatalf("Watch(%v, %d, %d, %v) is %v, but it comes to %d", p, x, v, wants, got, at)
	}
	return got
}

func TestWatchAtInputs(t *testing.T) {
	slow := withZones(flat(1000), impl.Zone{From: 100, To: 120, Speed: 20})
	for _, c := range []struct {
		name   string
		p      impl.Profile
		x, v   int
		wants  []int
		speeds []int
		braked int
		at     int
	}{
		{"all wants safe", flat(1000), 0, 0, []int{5, 50, 0, 17}, []int{5, 50, 0, 17}, 0, 72},
		{"the first want is not safe", flat(60), 0, 30, []int{99, 5, 99}, []int{30, 5, 0}, 2, 35},
		{"the first want is safe: v has no part in it", flat(60), 0, 30, []int{7, 99}, []int{7, 0}, 1, 7},
		{"the first want is v", flat(60), 0, 30, []int{30, 30, 30, 30}, []int{30, 20, 10, 0}, 3, 60},
		{"the first want is one more than is safe", flat(60), 0, 30, []int{31, 20, 10}, []int{30, 20, 10}, 1, 60},
		{"the first want is not safe, v is below what is", flat(60), 0, 3, []int{31, 31, 31}, []int{3, 0, 0}, 3, 3},
		{"brakes from the first tick on", flat(60), 0, 30, []int{-1, -1, -1, -1, -1}, []int{30, 20, 10, 0, 0}, 5, 60},
		{"brakes from the second tick on", flat(60), 0, 0, []int{20, 30, 30, 30, 30}, []int{20, 10, 0, 0, 0}, 4, 30},
		{"a delay from the first tick on", delayedBy(flat(200), 2), 0, 30, []int{-1, -1, -1, -1, -1, -1}, []int{30, 30, 30, 20, 10, 0}, 6, 120},
		{"a delay from the second tick on", delayedBy(flat(200), 2), 0, 0, []int{30, -1, -1, -1, -1}, []int{30, 30, 30, 20, 10}, 4, 120},
		{"a delay begun, broken off by a safe want and begun again", delayedBy(flat(1000), 3), 0, 0, []int{30, -1, -1, 20, -1, -1, -1, -1, -1}, []int{30, 30, 30, 20, 20, 20, 20, 10, 0}, 7, 180},
		{"broken off by the same speed", delayedBy(flat(1000), 2), 0, 0, []int{30, -1, 30, -1, -1, -1, -1}, []int{30, 30, 30, 30, 30, 20, 10}, 5, 180},
		{"broken off in its first tick", delayedBy(flat(1000), 2), 0, 30, []int{-1, 15, -1, -1, -1, -1}, []int{30, 15, 15, 15, 5, 0}, 5, 80},
		{"broken off behind the delay, while it brakes", delayedBy(flat(1000), 1), 0, 50, []int{-1, -1, -1, 45, -1, -1, -1}, []int{50, 50, 40, 45, 45, 35, 25}, 6, 290},
		{"a stand is broken off as well", delayedBy(flat(1000), 1), 0, 5, []int{-1, -1, -1, -1, 9, -1, -1}, []int{5, 5, 0, 0, 9, 9, 0}, 6, 28},
		{"a delay of 20 is longer than the wants", delayedBy(flat(1000), 20), 0, 30, []int{-1, -1, -1, -1}, []int{30, 30, 30, 30}, 4, 120},
		{"a want of 0 is safe at once", flat(1000), 0, 90, []int{90, 0, -1}, []int{90, 0, 0}, 1, 90},
		{"at End", flat(60), 60, 0, []int{1, 0, 10000, -1}, []int{0, 0, 0, 0}, 3, 60},
		{"an End of 0", endingAt(level(60, 10), 0), 0, 0, []int{1, 0}, []int{0, 0}, 1, 0},
		{"a limit ahead", slow, 69, 30, []int{31, 21, 20, 21, 21}, []int{30, 20, 20, 21, 21}, 2, 181},
		{"the place at which the last move began, a stronger brake ahead", twoPieces(10, 50, 500), 90, 20, []int{-1, -1, -1}, []int{20, 10, 0}, 3, 120},
		{"the same from a want", twoPieces(10, 50, 500), 90, 0, []int{20, -1, -1}, []int{20, 10, 0}, 2, 120},
		{"a weaker brake ahead", twoPieces(50, 10, 500), 90, 70, []int{-1, -1, -1, -1}, []int{70, 20, 10, 0}, 4, 190},
		{"the same from a want", twoPieces(50, 10, 500), 90, 0, []int{70, -1, -1, -1}, []int{70, 20, 10, 0}, 3, 190},
		{"the brake counts from where a want's own move began", twoPieces(10, 50, 500), 50, 40, []int{-1, 45, -1, -1}, []int{40, 45, 35, 0}, 3, 170},
		{"beyond every speed", flat(1000), 0, 30, []int{10001, math.MaxInt, math.MinInt, 20000}, []int{30, 20, 10, 0}, 4, 60},
		{"no wants", flat(60), 5, 20, nil, nil, 0, 5},
		{"an empty list of wants", flat(60), 60, 0, []int{}, nil, 0, 60},
	} {
		got := checkWatch(t, c.p, c.x, c.v, c.wants)
		if !got.Ok || !slices.Equal(got.Speeds, c.speeds) || got.Braked != c.braked || got.At != c.at {
			t.Errorf("%s: %v, want %v, %d braked, at %d", c.name, got, c.speeds, c.braked, c.at)
		}
	}
}

func TestWatchRefuses(t *testing.T) {
	far := endingAt(level(1000, 10), 60)
	for _, c := range []struct {
		name string
		p    impl.Profile
		x, v int
		n    int
	}{
		{"a first speed that is not safe", flat(60), 0, 31, 3},
		{"a first speed that is not safe, no wants", flat(60), 0, 31, 0},
		{"a first speed that would be safe from one behind", flat(60), 1, 30, 3},
		{"a first speed above a limit", withZones(flat(1000), impl.Zone{From: 0, To: 5, Speed: 3}), 5, 4, 3},
		{"a first speed with which it cannot brake in time", withZones(flat(1000), impl.Zone{From: 100, To: 120, Speed: 20}), 70, 30, 3},
		{"a first speed that a delay makes too fast", delayedBy(flat(60), 1), 0, 30, 3},
		{"one beyond End", far, 61, 0, 3},
		{"one beyond End, no wants", far, 61, 0, 0},
		{"one want too many", flat(60), 0, 0, impl.MaxWatch + 1},
		{"many wants too many", flat(60), 0, 0, 100000},
	} {
		if got := impl.Watch(c.p, c.x, c.v, make([]int, c.n)); !reflect.DeepEqual(got, impl.Watched{}) {
			t.Errorf("%s: %v", c.name, got)
		}
	}
}

func TestWatchMaxWatch(t *testing.T) {
	if impl.MaxWatch != 500 {
		t.Errorf("MaxWatch is %d, want 500", impl.MaxWatch)
	}
	p := delayedBy(flat(100000), 3)
	for _, want := range []int{0, 7, 100, impl.MaxSpeed, -1} {
		for _, n := range []int{1, 499, 500} {
			got := checkWatch(t, p, 0, 300, slices.Repeat([]int{want}, n))
			if !got.Ok || len(got.Speeds) != n {
				t.Errorf("%d wants of %d: %v", n, want, got)
			}
		}
	}
}

func TestWatchedTrainsWithDrawnWants(t *testing.T) {
	r := rand.New(rand.NewPCG(3, 4))
	for _, p := range slices.Concat(smallProfiles(), drawnProfiles(300, 400), drawnProfiles(300, 40)) {
		for range 4 {
			x := r.IntN(p.End + 1)
			most := impl.MostNow(p, x)
			v := r.IntN(most + 1)
			wants := make([]int, r.IntN(40))
			for i := range wants {
				wants[i] = r.IntN(most+60) - 20
			}
			checkWatch(t, p, x, v, wants)
			checkWatch(t, p, x, most, wants)
		}
	}
}

// Drivers who always want the same, each of them a bad one.
func TestWatchedTrainsWithBadWants(t *testing.T) {
	bad := append(beyond(0, impl.MaxSpeed), impl.MaxSpeed, impl.MaxSpeed-1, 5000, 1000, 100)
	for _, p := range slices.Concat(smallProfiles(), drawnProfiles(120, 400), drawnProfiles(60, 30)) {
		for x := 0; x <= p.End; x += 1 + p.End/4 {
			most := impl.MostNow(p, x)
			for _, want := range bad {
				wants := slices.Repeat([]int{want}, 30)
				checkWatch(t, p, x, 0, wants)
				checkWatch(t, p, x, most, wants)
			}
		}
	}
}

// A driver who goes by MostNow where the train is: by just that, by one more, by the one and the other in turn.
func TestWatchedTrainsAtTheirMost(t *testing.T) {
	for _, p := range slices.Concat(smallProfiles(), drawnProfiles(100, 400), drawnProfiles(60, 40)) {
		for _, more := range [][]int{{0}, {1}, {0, 1}, {1, 1, 0}, {1, -3}} {
			v := impl.MostNow(p, 0)
			var wants []int
			at, braked := 0, 0
			for i := range 40 {
				wants = append(wants, impl.MostNow(p, at)+more[i%len(more)])
				if more[i%len(more)] > 0 || wants[i] < 0 {
					braked++
				}
				at = checkWatch(t, p, 0, v, wants).At
			}
			if got := impl.Watch(p, 0, v, wants).Braked; got != braked {
				t.Fatalf("Watch(%v, 0, %d, %v) has braked %d times, want %d", p, v, wants, got, braked)
			}
		}
	}
}

// A speed above one that is not safe may be wanted, and a train may begin with it.
func TestWatchSpeedsAboveMostNow(t *testing.T) {
	p := twoPieces(10, 1000, 190)
	for _, c := range []struct {
		v      int
		wants  []int
		speeds []int
	}{
		{0, []int{100, 99, 99}, []int{100, 90, 0}},
		{0, []int{99, 99}, []int{0, 0}},
		{100, []int{99, -1, -1}, []int{100, 90, 0}},
	} {
		if got := checkWatch(t, p, 0, c.v, c.wants); !slices.Equal(got.Speeds, c.speeds) {
			t.Errorf("from %d, wants %v: %v, want %v", c.v, c.wants, got, c.speeds)
		}
	}
	if impl.Watch(p, 0, 99, nil).Ok {
		t.Error("it is not safe to begin with 99")
	}
}

func TestSafeArgumentsAreNotWritten(t *testing.T) {
	for _, p := range alsoSpoilt(slices.Concat(smallProfiles(), drawnProfiles(60, 400))) {
		all := []int{5, 10000, -1, 3, 3, 99, 77, 77}
		checkUnwritten(t, p, func(p impl.Profile) []any {
			return []any{impl.Safe(p, 3, 9), impl.MostNow(p, 3), impl.Curve(p, 1+max(p.End, 0)/50), impl.Watch(p, 0, 0, all[:6])}
		})
		if !slices.Equal(all, []int{5, 10000, -1, 3, 3, 99, 77, 77}) {
			t.Errorf("the wants became %v", all)
		}
	}
}

func TestSafeAnswersAreNewMemory(t *testing.T) {
	p := flat(1000)
	wants := []int{5, 6, 7}
	watched := impl.Watch(p, 0, 0, wants)
	for i := range watched.Speeds {
		watched.Speeds[i] = 99
	}
	if !slices.Equal(wants, []int{5, 6, 7}) {
		t.Errorf("the wants became %v", wants)
	}
	again := impl.Watch(p, 0, 0, wants)
	wants[0] = 44
	if !slices.Equal(again.Speeds, []int{5, 6, 7}) {
		t.Errorf("the speeds became %v", again.Speeds)
	}
	points := impl.Curve(p, 10)
	want := slices.Clone(points)
	clear(points)
	if got := impl.Curve(p, 10); !slices.Equal(got, want) {
		t.Errorf("the points became %v", got)
	}
}
