package tests

import (
	"math"
	"testing"

	"loop.example/sprag/impl"
)

// slowByTicks goes tick by tick, as the document's words do, so that the closed sums are held against something else.
func slowByTicks(v, u, b int) (length, ticks int) {
	for v > u {
		v -= b
		if v < u {
			v = u
		}
		length += v
		ticks++
	}
	return length, ticks
}

// someSpeeds, someBrakes and someDelays hold both ends of their range.
func someSpeeds() []int {
	return []int{0, 1, 9, 10, 11, 35, 99, 100, 101, 999, 1000, 1001, 2777, 5000, 9990, 9999, 10000}
}

func someBrakes() []int { return []int{10, 11, 13, 50, 97, 100, 333, 500, 999, 1000} }

func someDelays() []int { return []int{0, 1, 2, 7, 19, 20} }

// beyond is what lies outside a range: by one at either end, and far.
func beyond(low, high int) []int {
	return []int{low - 1, high + 1, -low - 1000, high * 2, math.MinInt, math.MinInt + 1, math.MinInt32, math.MaxInt32, math.MaxInt - 1, math.MaxInt}
}

func TestRanges(t *testing.T) {
	for i, c := range []struct{ got, want int }{
		{impl.MaxSpeed, 10000},
		{impl.MinBrake, 10},
		{impl.MaxBrake, 1000},
		{impl.MaxDelay, 20},
		{impl.MaxLen, 100000000},
	} {
		if c.got != c.want {
			t.Errorf("constant %d: %d, want %d", i, c.got, c.want)
		}
	}
}

func TestSlowAtInputs(t *testing.T) {
	for _, c := range []struct {
		name                   string
		v, u, b, length, ticks int
	}{
		{"to a stand, with a rest", 35, 0, 10, 25 + 15 + 5, 4},
		{"to a stand, without a rest", 40, 0, 10, 30 + 20 + 10, 4},
		{"u just met", 50, 20, 10, 40 + 30 + 20, 3},
		{"one above u just met", 51, 20, 10, 41 + 31 + 21 + 20, 4},
		{"one below u just met", 49, 20, 10, 39 + 29 + 20, 3},
		{"only a rest below the brake", 25, 20, 10, 20, 1},
		{"a rest of one", 21, 20, 1000, 20, 1},
		{"a rest of one less than the brake", 1019, 20, 1000, 20, 1},
		{"just a brake", 1020, 20, 1000, 20, 1},
		{"a brake and one", 1021, 20, 1000, 21 + 20, 2},
		{"v is u", 20, 20, 10, 0, 0},
		{"v is one below u", 19, 20, 10, 0, 0},
		{"v is far below u", 0, 10000, 10, 0, 0},
		{"both 0", 0, 0, 10, 0, 0},
		{"both MaxSpeed", 10000, 10000, 1000, 0, 0},
		{"from 1 to 0", 1, 0, 10, 0, 1},
		{"from MaxSpeed by MinBrake", 10000, 0, 10, 4995000, 1000},
		{"from MaxSpeed by MaxBrake", 10000, 0, 1000, 45000, 10},
		{"from MaxSpeed to one less", 10000, 9999, 1000, 9999, 1},
	} {
		if got := impl.SlowLen(c.v, c.u, c.b); got != c.length {
			t.Errorf("%s: SlowLen(%d, %d, %d) is %d, want %d", c.name, c.v, c.u, c.b, got, c.length)
		}
		if got := impl.SlowTicks(c.v, c.u, c.b); got != c.ticks {
			t.Errorf("%s: SlowTicks(%d, %d, %d) is %d, want %d", c.name, c.v, c.u, c.b, got, c.ticks)
		}
	}
}

func checkSlow(t *testing.T, v, u, b int) {
	t.Helper()
	length, ticks := slowByTicks(v, u, b)
	if got := impl.SlowLen(v, u, b); got != length {
		t.Fatalf("SlowLen(%d, %d, %d) is %d, want %d", v, u, b, got, length)
	}
	if got := impl.SlowTicks(v, u, b); got != ticks {
		t.Fatalf("SlowTicks(%d, %d, %d) is %d, want %d", v, u, b, got, ticks)
	}
}

func TestSlowIsTickByTick(t *testing.T) {
	for v := 0; v <= impl.MaxSpeed; v++ {
		for _, u := range []int{0, 1, 20, 999, 5000, 9999, 10000} {
			for _, b := range someBrakes() {
				checkSlow(t, v, u, b)
			}
		}
	}
}

func TestSlowWithEveryBrake(t *testing.T) {
	for b := impl.MinBrake; b <= impl.MaxBrake; b++ {
		for _, v := range someSpeeds() {
			for _, u := range someSpeeds() {
				checkSlow(t, v, u, b)
			}
		}
	}
}

func TestSlowAtWrongInputs(t *testing.T) {
	refused := func(v, u, b int) {
		t.Helper()
		if got := impl.SlowLen(v, u, b); got != -1 {
			t.Errorf("SlowLen(%d, %d, %d) is %d, want -1", v, u, b, got)
		}
		if got := impl.SlowTicks(v, u, b); got != -1 {
			t.Errorf("SlowTicks(%d, %d, %d) is %d, want -1", v, u, b, got)
		}
	}
	for _, x := range beyond(0, impl.MaxSpeed) {
		refused(x, 0, 10)
		refused(x, 10000, 1000)
		refused(0, x, 10)
		refused(10000, x, 1000)
		refused(x, x, 10)
	}
	for _, b := range beyond(impl.MinBrake, impl.MaxBrake) {
		refused(35, 0, b)
		refused(0, 35, b)
		refused(0, 0, b)
	}
	for _, b := range []int{0, 1, -1, -10, -1000} {
		refused(35, 0, b)
		refused(35, 35, b)
	}
}

func TestClosedSumToAStand(t *testing.T) {
	for b := impl.MinBrake; b <= impl.MaxBrake; b++ {
		for _, r := range []int{0, 1, b / 2, b - 1} {
			for q := 0; q*b+r <= impl.MaxSpeed; q++ {
				want := q*r + b*q*(q-1)/2
				if got := impl.SlowLen(q*b+r, 0, b); got != want {
					t.Fatalf("%d brakes of %d and a rest of %d: %d, want %d", q, b, r, got, want)
				}
			}
		}
	}
}

func TestTwoPiecesOfWholeBrakes(t *testing.T) {
	for _, b := range someBrakes() {
		for _, u := range someSpeeds() {
			for _, v := range someSpeeds() {
				for between := v; between >= u; between -= b {
					length := impl.SlowLen(v, between, b) + impl.SlowLen(between, u, b)
					if whole := impl.SlowLen(v, u, b); whole != length {
						t.Fatalf("from %d by %d to %d: %d, by way of %d: %d", v, b, u, whole, between, length)
					}
					ticks := impl.SlowTicks(v, between, b) + impl.SlowTicks(between, u, b)
					if whole := impl.SlowTicks(v, u, b); whole != ticks {
						t.Fatalf("from %d by %d to %d: %d ticks, by way of %d: %d", v, b, u, whole, between, ticks)
					}
				}
			}
		}
	}
}

func TestMostSpeedAtInputs(t *testing.T) {
	for _, c := range []struct {
		name                    string
		room, u, b, delay, want int
	}{
		{"a room just filled", 45, 0, 10, 0, 35},
		{"one less than that", 44, 0, 10, 0, 34},
		{"one more than that", 46, 0, 10, 0, 35},
		{"one speed farther", 48, 0, 10, 0, 36},
		{"down to u, just filled", 45, 20, 10, 0, 35},
		{"down to u, one less", 44, 20, 10, 0, 34},
		{"no room: a brake's worth is gone in a tick", 0, 0, 10, 0, 10},
		{"no room, the greatest brake", 0, 0, 1000, 0, 1000},
		{"no room, to go on at u", 0, 30, 10, 0, 30},
		{"no room, to go on at MaxSpeed", 0, 10000, 10, 0, 10000},
		{"no room, a delay", 0, 0, 10, 1, 0},
		{"no room, a delay, u above", 0, 30, 10, 1, 0},
		{"a delay of one, just filled", 54, 0, 10, 1, 28},
		{"a delay of one, one less", 53, 0, 10, 1, 27},
		{"the delay alone fills it, at u", 600, 30, 10, 20, 30},
		{"the delay alone, one less", 599, 30, 10, 20, 29},
		{"MaxDelay, room for one", 20, 0, 10, 20, 1},
		{"MaxDelay, one less", 19, 0, 10, 20, 0},
		{"MaxLen", 100000000, 0, 10, 20, 10000},
		{"MaxLen, the greatest brake", 100000000, 10000, 1000, 0, 10000},
		{"just MaxSpeed", 4995000, 0, 10, 0, 10000},
		{"just not MaxSpeed", 4994999, 0, 10, 0, 9999},
		{"just MaxSpeed with MaxDelay", 245000, 0, 1000, 20, 10000},
		{"just not MaxSpeed with MaxDelay", 244999, 0, 1000, 20, 9999},
	} {
		if got := impl.MostSpeed(c.room, c.u, c.b, c.delay); got != c.want {
			t.Errorf("%s: MostSpeed(%d, %d, %d, %d) is %d, want %d", c.name, c.room, c.u, c.b, c.delay, got, c.want)
		}
	}
}

// mostByTicks asks every speed from 0 on, so that it tells the one up to which all of them fit in.
func mostByTicks(room, delay int, lengths []int) int {
	most := -1
	for v, length := range lengths {
		if delay*v+length > room {
			break
		}
		most = v
	}
	return most
}

func TestMostSpeedIsTheGreatest(t *testing.T) {
	for _, u := range []int{0, 1, 35, 1000, 9999, 10000} {
		for _, b := range []int{10, 11, 97, 333, 1000} {
			lengths := make([]int, impl.MaxSpeed+1)
			for v := range lengths {
				lengths[v], _ = slowByTicks(v, u, b)
			}
			for _, delay := range someDelays() {
				for _, room := range []int{0, 1, 19, 20, 21, 45, 600, 3333, 45000, 199999, 200000, 245000, 4994999, 4995000, 99999999, 100000000} {
					want := mostByTicks(room, delay, lengths)
					if got := impl.MostSpeed(room, u, b, delay); got != want {
						t.Fatalf("MostSpeed(%d, %d, %d, %d) is %d, want %d", room, u, b, delay, got, want)
					}
				}
			}
		}
	}
}

// The room that a speed just needs lets it run, and one less does not.
func TestMostSpeedJustMet(t *testing.T) {
	for _, u := range someSpeeds() {
		for _, b := range someBrakes() {
			for _, delay := range someDelays() {
				for _, v := range someSpeeds() {
					length, _ := slowByTicks(v, u, b)
					room := delay*v + length
					got := impl.MostSpeed(room, u, b, delay)
					if got < v {
						t.Fatalf("MostSpeed(%d, %d, %d, %d) is %d, but %d just fits in", room, u, b, delay, got, v)
					}
					if got < impl.MaxSpeed {
						above, _ := slowByTicks(got+1, u, b)
						if delay*(got+1)+above <= room {
							t.Fatalf("MostSpeed(%d, %d, %d, %d) is %d, but one more fits in", room, u, b, delay, got)
						}
					}
					if room == 0 {
						continue
					}
					if got := impl.MostSpeed(room-1, u, b, delay); got >= v {
						t.Fatalf("MostSpeed(%d, %d, %d, %d) is %d, but %d does not fit in", room-1, u, b, delay, got, v)
					}
				}
			}
		}
	}
}

func TestMostSpeedAtWrongInputs(t *testing.T) {
	refused := func(room, u, b, delay int) {
		t.Helper()
		if got := impl.MostSpeed(room, u, b, delay); got != -1 {
			t.Errorf("MostSpeed(%d, %d, %d, %d) is %d, want -1", room, u, b, delay, got)
		}
	}
	for _, room := range beyond(0, impl.MaxLen) {
		refused(room, 0, 10, 0)
		refused(room, 10000, 1000, 20)
	}
	for _, u := range beyond(0, impl.MaxSpeed) {
		refused(45, u, 10, 0)
		refused(100000000, u, 1000, 20)
	}
	for _, b := range append(beyond(impl.MinBrake, impl.MaxBrake), 0, 1, -1, -10) {
		refused(45, 0, b, 0)
		refused(100000000, 10000, b, 20)
	}
	for _, delay := range beyond(0, impl.MaxDelay) {
		refused(45, 0, 10, delay)
		refused(0, 10000, 1000, delay)
	}
}

func TestLeastBrakeAtInputs(t *testing.T) {
	for _, c := range []struct {
		name             string
		room, v, u, want int
	}{
		{"MinBrake just met", 45, 35, 0, 10},
		{"MinBrake one short", 44, 35, 0, 11},
		{"no room, in one tick", 0, 35, 0, 35},
		{"no room, just MaxBrake", 0, 1000, 0, 1000},
		{"no room, just beyond MaxBrake", 0, 1001, 0, 0},
		{"MaxBrake just met", 45000, 10000, 0, 1000},
		{"MaxBrake one short", 44999, 10000, 0, 0},
		{"u just met in one tick", 20, 50, 20, 30},
		{"a tick at u is too far", 19, 50, 20, 0},
		{"u above 0, no room", 0, 35, 34, 0},
		{"v is u", 0, 35, 35, 10},
		{"v below u", 0, 5, 9, 10},
		{"both 0", 0, 0, 0, 10},
		{"both MaxSpeed", 0, 10000, 10000, 10},
		{"from 1", 0, 1, 0, 10},
		{"MaxLen", 100000000, 10000, 0, 10},
		{"MinBrake from MaxSpeed just met", 4995000, 10000, 0, 10},
		{"MinBrake from MaxSpeed one short", 4994999, 10000, 0, 11},
	} {
		if got := impl.LeastBrake(c.room, c.v, c.u); got != c.want {
			t.Errorf("%s: LeastBrake(%d, %d, %d) is %d, want %d", c.name, c.room, c.v, c.u, got, c.want)
		}
	}
}

// leastByTicks asks every brake, the least one first.
func leastByTicks(room, v, u int) int {
	for b := impl.MinBrake; b <= impl.MaxBrake; b++ {
		if length, _ := slowByTicks(v, u, b); length <= room {
			return b
		}
	}
	return 0
}

func TestLeastBrakeIsTheLeast(t *testing.T) {
	for _, v := range someSpeeds() {
		for _, u := range someSpeeds() {
			for _, room := range []int{0, 1, 20, 45, 999, 1000, 3333, 44999, 45000, 777777, 4994999, 4995000, 100000000} {
				want := leastByTicks(room, v, u)
				if got := impl.LeastBrake(room, v, u); got != want {
					t.Fatalf("LeastBrake(%d, %d, %d) is %d, want %d", room, v, u, got, want)
				}
			}
		}
	}
}

// The room that a brake just needs is met by it or a lesser one, and one less than the one told never is enough.
func TestLeastBrakeJustMet(t *testing.T) {
	for _, v := range someSpeeds() {
		for _, u := range someSpeeds() {
			for _, b := range someBrakes() {
				room, _ := slowByTicks(v, u, b)
				got := impl.LeastBrake(room, v, u)
				if got < impl.MinBrake || got > b {
					t.Fatalf("LeastBrake(%d, %d, %d) is %d, but %d is enough", room, v, u, got, b)
				}
				if length, _ := slowByTicks(v, u, got); length > room {
					t.Fatalf("LeastBrake(%d, %d, %d) is %d, which comes %d far", room, v, u, got, length)
				}
				if got == impl.MinBrake {
					continue
				}
				if length, _ := slowByTicks(v, u, got-1); length <= room {
					t.Fatalf("LeastBrake(%d, %d, %d) is %d, but one less is enough", room, v, u, got)
				}
			}
		}
	}
}

func TestLeastBrakeAtWrongInputs(t *testing.T) {
	refused := func(room, v, u int) {
		t.Helper()
		if got := impl.LeastBrake(room, v, u); got != -1 {
			t.Errorf("LeastBrake(%d, %d, %d) is %d, want -1", room, v, u, got)
		}
	}
	for _, room := range beyond(0, impl.MaxLen) {
		refused(room, 35, 0)
		refused(room, 0, 35)
		refused(room, 10000, 0)
	}
	for _, x := range beyond(0, impl.MaxSpeed) {
		refused(45, x, 0)
		refused(0, x, 10000)
		refused(45, 35, x)
		refused(100000000, 0, x)
		refused(100000000, x, x)
	}
}
