package tests

import (
	"reflect"
	"slices"
	"testing"

	"loop.example/sprag/impl"
)

const mostLen = impl.MaxLen / impl.MaxPieces

// threePieces has its places between two pieces at 100 and 130, its last place at 200.
func threePieces() impl.Profile {
	return impl.Profile{
		Pieces: []impl.Piece{{Len: 100, Brake: 10}, {Len: 30, Brake: 1000}, {Len: 70, Brake: 25}},
		Zones:  []impl.Zone{{From: 20, To: 60, Speed: 30}, {From: 50, To: 90, Speed: 20}, {From: 55, To: 55, Speed: 25}},
		Train:  15,
		End:    180,
		Delay:  2,
	}
}

func level(length, brake int) impl.Profile {
	return impl.Profile{Pieces: []impl.Piece{{Len: length, Brake: brake}}}
}

func manyPieces(n, length, brake int) impl.Profile {
	return impl.Profile{Pieces: slices.Repeat([]impl.Piece{{Len: length, Brake: brake}}, n)}
}

func withZones(p impl.Profile, zones ...impl.Zone) impl.Profile {
	p.Zones = zones
	return p
}

func lastPlace(p impl.Profile) int {
	sum := 0
	for _, piece := range p.Pieces {
		sum += piece.Len
	}
	return sum
}

// smallProfiles are short enough to be asked at each of their places.
func smallProfiles() []impl.Profile {
	out := []impl.Profile{
		threePieces(),
		level(1, 10),
		level(300, 1000),
		manyPieces(impl.MaxPieces, 1, 10),
		withZones(level(40, 50), impl.Zone{From: 0, To: 40, Speed: 10000}, impl.Zone{From: 40, To: 40, Speed: 1}),
	}
	for n := 1; n <= 24; n++ {
		p := impl.Profile{Train: n * 5 % 17, End: n, Delay: n % 21}
		for i := range n {
			p.Pieces = append(p.Pieces, impl.Piece{Len: 1 + (i*i*7+n*13)%41, Brake: 10 + (i*37+n*11)%90})
		}
		last := lastPlace(p)
		for i := range n - 1 {
			from := (i*53 + n*29) % (last + 1)
			p.Zones = append(p.Zones, impl.Zone{From: from, To: from + (i*31+n)%(last-from+1), Speed: 1 + (i*997+n*71)%10000})
		}
		out = append(out, p)
	}
	return out
}

// brakesByPlace lays the pieces out centimetre by centimetre, so that the search is held against something else.
func brakesByPlace(p impl.Profile) []int {
	var brakes []int
	for _, piece := range p.Pieces {
		brakes = append(brakes, slices.Repeat([]int{piece.Brake}, piece.Len)...)
	}
	return append(brakes, p.Pieces[len(p.Pieces)-1].Brake)
}

// limitsByPlace lays each zone out over all places at which the front or another part of the train is in it.
func limitsByPlace(p impl.Profile) []int {
	limits := slices.Repeat([]int{impl.MaxSpeed}, lastPlace(p)+1)
	for _, zone := range p.Zones {
		for part := 0; part <= p.Train; part++ {
			for x := zone.From; x <= zone.To; x++ {
				if x+part < len(limits) {
					limits[x+part] = min(limits[x+part], zone.Speed)
				}
			}
		}
	}
	return limits
}

func standByTicks(brakes []int, x, v int) int {
	for v > 0 {
		v -= brakes[x]
		if v < 0 {
			v = 0
		}
		x += v
		if x >= len(brakes) {
			return -1
		}
	}
	return x
}

// fault makes a right profile wrong.
type fault struct {
	name  string
	code  int
	spoil func(p *impl.Profile)
}

// profileFaults pass each number of threePieces and each count by one at either end and far beyond, one at a time.
func profileFaults() []fault {
	faults := []fault{
		{"nil for pieces", 1, func(p *impl.Profile) { p.Pieces = nil }},
		{"no pieces", 1, func(p *impl.Profile) { p.Pieces = []impl.Piece{} }},
		{"a piece too many", 1, func(p *impl.Profile) { p.Pieces = filledUp(p.Pieces, impl.MaxPieces+1) }},
		{"many pieces too many", 1, func(p *impl.Profile) { p.Pieces = filledUp(p.Pieces, 5000) }},
		{"a zone too many", 1, func(p *impl.Profile) { p.Zones = filledUp(p.Zones, impl.MaxZones+1) }},
		{"many zones too many", 1, func(p *impl.Profile) { p.Zones = filledUp(p.Zones, 5000) }},
		{"a zone that ends ahead of its beginning", 3, func(p *impl.Profile) { p.Zones[1].To = p.Zones[1].From - 1 }},
		{"a zone that ends far ahead of its beginning", 3, func(p *impl.Profile) { p.Zones[0].From, p.Zones[0].To = 200, 0 }},
		{"a zone beyond the last place", 3, func(p *impl.Profile) { p.Zones[2].From, p.Zones[2].To = 201, 201 }},
		{"a zone ahead of place 0", 3, func(p *impl.Profile) { p.Zones[0].From, p.Zones[0].To = -1, -1 }},
	}
	for i := range 3 {
		for _, x := range append(beyond(1, mostLen), -1) {
			faults = append(faults, fault{"a piece's Len", 2, func(p *impl.Profile) { p.Pieces[i].Len = x }})
		}
		for _, x := range append(beyond(impl.MinBrake, impl.MaxBrake), 0, 1, -10) {
			faults = append(faults, fault{"a piece's Brake", 2, func(p *impl.Profile) { p.Pieces[i].Brake = x }})
		}
		for _, x := range beyond(0, 200) {
			faults = append(faults, fault{"a zone's From", 3, func(p *impl.Profile) { p.Zones[i].From = x }})
			faults = append(faults, fault{"a zone's To", 3, func(p *impl.Profile) { p.Zones[i].To = x }})
		}
		for _, x := range append(beyond(1, impl.MaxSpeed), -1) {
			faults = append(faults, fault{"a zone's Speed", 3, func(p *impl.Profile) { p.Zones[i].Speed = x }})
		}
	}
	for _, x := range beyond(0, impl.MaxLen) {
		faults = append(faults, fault{"Train", 4, func(p *impl.Profile) { p.Train = x }})
	}
	for _, x := range beyond(0, 200) {
		faults = append(faults, fault{"End", 5, func(p *impl.Profile) { p.End = x }})
	}
	for _, x := range beyond(0, impl.MaxDelay) {
		faults = append(faults, fault{"Delay", 6, func(p *impl.Profile) { p.Delay = x }})
	}
	return faults
}

// filledUp repeats the last item, whatever else is at fault in the list.
func filledUp[T any](list []T, n int) []T {
	out := slices.Clone(list)
	for len(out) < n {
		var item T
		if len(list) > 0 {
			item = list[len(list)-1]
		}
		out = append(out, item)
	}
	return out
}

func TestProfileRanges(t *testing.T) {
	if impl.MaxPieces != 60 || impl.MaxZones != 60 {
		t.Errorf("%d pieces, %d zones; want 60 of each", impl.MaxPieces, impl.MaxZones)
	}
}

func TestRightProfiles(t *testing.T) {
	for _, p := range smallProfiles() {
		if got := impl.ProfileOk(p); got != 0 {
			t.Errorf("%v: %d, want 0", p, got)
		}
	}
	for _, c := range []struct {
		name string
		make func(p *impl.Profile)
	}{
		{"nil for zones", func(p *impl.Profile) { p.Zones = nil }},
		{"no zones", func(p *impl.Profile) { p.Zones = []impl.Zone{} }},
		{"MaxZones zones", func(p *impl.Profile) { p.Zones = filledUp(p.Zones, impl.MaxZones) }},
		{"MaxPieces pieces", func(p *impl.Profile) { p.Pieces = filledUp(p.Pieces, impl.MaxPieces) }},
		{"the greatest pieces", func(p *impl.Profile) { p.Pieces = manyPieces(impl.MaxPieces, mostLen, 10).Pieces }},
		{"a piece of 1", func(p *impl.Profile) { p.Pieces = append(p.Pieces, impl.Piece{Len: 1, Brake: 10}) }},
		{"a piece of the greatest Len", func(p *impl.Profile) { p.Pieces[2].Len = mostLen }},
		{"MinBrake", func(p *impl.Profile) { p.Pieces[0].Brake = impl.MinBrake }},
		{"MaxBrake", func(p *impl.Profile) { p.Pieces[0].Brake = impl.MaxBrake }},
		{"a zone over everything", func(p *impl.Profile) { p.Zones[0].From, p.Zones[0].To = 0, 200 }},
		{"a zone at place 0", func(p *impl.Profile) { p.Zones[0].From, p.Zones[0].To = 0, 0 }},
		{"a zone at the last place", func(p *impl.Profile) { p.Zones[0].From, p.Zones[0].To = 200, 200 }},
		{"a zone of speed 1", func(p *impl.Profile) { p.Zones[0].Speed = 1 }},
		{"a zone of MaxSpeed", func(p *impl.Profile) { p.Zones[0].Speed = impl.MaxSpeed }},
		{"a train of 0", func(p *impl.Profile) { p.Train = 0 }},
		{"a train of MaxLen", func(p *impl.Profile) { p.Train = impl.MaxLen }},
		{"an end at 0", func(p *impl.Profile) { p.End = 0 }},
		{"an end at the last place", func(p *impl.Profile) { p.End = 200 }},
		{"a delay of 0", func(p *impl.Profile) { p.Delay = 0 }},
		{"MaxDelay", func(p *impl.Profile) { p.Delay = impl.MaxDelay }},
	} {
		p := threePieces()
		c.make(&p)
		if got := impl.ProfileOk(p); got != 0 {
			t.Errorf("%s: %d, want 0", c.name, got)
		}
	}
}

func TestWrongProfiles(t *testing.T) {
	for _, f := range profileFaults() {
		p := threePieces()
		f.spoil(&p)
		if got := impl.ProfileOk(p); got != f.code {
			t.Errorf("%s: %v: %d, want %d", f.name, p, got, f.code)
		}
		for _, x := range []int{0, 1, 100, 200, 201, -1} {
			if got := impl.BrakeAt(p, x); got != -1 {
				t.Errorf("%s: BrakeAt(%v, %d) is %d, want -1", f.name, p, x, got)
			}
			if got := impl.LimitAt(p, x); got != -1 {
				t.Errorf("%s: LimitAt(%v, %d) is %d, want -1", f.name, p, x, got)
			}
			for _, v := range []int{0, 5, -1} {
				if got := impl.StandAt(p, x, v); got != -1 {
					t.Errorf("%s: StandAt(%v, %d, %d) is %d, want -1", f.name, p, x, v, got)
				}
			}
		}
	}
}

// The fault of the greater code is made first, while the lists that the other one may take away are still there.
func TestPairsOfFaults(t *testing.T) {
	faults := profileFaults()
	for _, one := range faults {
		for _, other := range faults {
			if one.code > other.code {
				continue
			}
			p := threePieces()
			other.spoil(&p)
			one.spoil(&p)
			if got := impl.ProfileOk(p); got != one.code {
				t.Fatalf("%s and %s: %v: %d, want %d", one.name, other.name, p, got, one.code)
			}
		}
	}
}

// One fault of each code at the most, in every choice of codes.
func TestManyFaultsTogether(t *testing.T) {
	spoils := []func(p *impl.Profile){
		func(p *impl.Profile) { p.Zones = filledUp(p.Zones, impl.MaxZones+1) },
		func(p *impl.Profile) { p.Pieces[2].Brake = 9 },
		func(p *impl.Profile) { p.Zones[2].To = 201 },
		func(p *impl.Profile) { p.Train = impl.MaxLen + 1 },
		func(p *impl.Profile) { p.End = 201 },
		func(p *impl.Profile) { p.Delay = 21 },
	}
	for choice := 1; choice < 1<<len(spoils); choice++ {
		p := threePieces()
		want := 0
		for i := len(spoils) - 1; i >= 0; i-- {
			if choice>>i&1 == 1 {
				spoils[i](&p)
				want = i + 1
			}
		}
		if got := impl.ProfileOk(p); got != want {
			t.Errorf("choice %06b: %d, want %d", choice, got, want)
		}
	}
}

// An end and a zone lie on the pieces there are, not on those of another length.
func TestPlacesHangOnThePieces(t *testing.T) {
	p := threePieces()
	p.End = 201
	p.Zones[1].To = 201
	if got := impl.ProfileOk(p); got != 3 {
		t.Errorf("200 long: %d, want 3", got)
	}
	p.Pieces[1].Len++
	if got := impl.ProfileOk(p); got != 0 {
		t.Errorf("201 long: %d, want 0", got)
	}
	p.Pieces = p.Pieces[:2]
	if got := impl.ProfileOk(p); got != 3 {
		t.Errorf("a piece less: %d, want 3", got)
	}
	p.Zones = nil
	if got := impl.ProfileOk(p); got != 5 {
		t.Errorf("a piece less, no zones: %d, want 5", got)
	}
}

func TestBrakeAtInputs(t *testing.T) {
	for x, want := range map[int]int{0: 10, 1: 10, 99: 10, 100: 1000, 101: 1000, 129: 1000, 130: 25, 131: 25, 199: 25, 200: 25} {
		if got := impl.BrakeAt(threePieces(), x); got != want {
			t.Errorf("at %d: %d, want %d", x, got, want)
		}
	}
	p := impl.Profile{Pieces: []impl.Piece{{Len: 1, Brake: 11}, {Len: 1, Brake: 12}, {Len: mostLen, Brake: 13}, {Len: 1, Brake: 14}}}
	for x, want := range map[int]int{0: 11, 1: 12, 2: 13, mostLen + 1: 13, mostLen + 2: 14, mostLen + 3: 14} {
		if got := impl.BrakeAt(p, x); got != want {
			t.Errorf("at %d of short pieces: %d, want %d", x, got, want)
		}
	}
}

// Each of the greatest profile's pieces has a brake of its own: the one at either end of it tells it.
func TestBrakeAtTheGreatestProfile(t *testing.T) {
	p := manyPieces(impl.MaxPieces, mostLen, 10)
	for i := range p.Pieces {
		p.Pieces[i].Brake = 10 + i
	}
	for i := range p.Pieces {
		for _, x := range []int{i * mostLen, i*mostLen + 1, (i+1)*mostLen - 1} {
			if got := impl.BrakeAt(p, x); got != 10+i {
				t.Errorf("at %d: %d, want %d", x, got, 10+i)
			}
		}
	}
	last := impl.MaxPieces * mostLen
	if got := impl.BrakeAt(p, last); got != 69 {
		t.Errorf("at the last place: %d, want 69", got)
	}
	if got := impl.BrakeAt(p, last+1); got != -1 {
		t.Errorf("beyond the last place: %d, want -1", got)
	}
}

func TestLimitAtInputs(t *testing.T) {
	for _, c := range []struct {
		name    string
		x, want int
	}{
		{"place 0", 0, 10000},
		{"ahead of From", 19, 10000},
		{"just at From", 20, 30},
		{"ahead of the second From", 49, 30},
		{"in two zones", 50, 20},
		{"in three zones", 55, 20},
		{"just at the first To", 60, 20},
		{"just at the second To + Train", 105, 20},
		{"one beyond that", 106, 10000},
		{"the last place", 200, 10000},
	} {
		if got := impl.LimitAt(threePieces(), c.x); got != c.want {
			t.Errorf("%s: %d, want %d", c.name, got, c.want)
		}
	}
}

func TestLimitAtOneZone(t *testing.T) {
	for _, c := range []struct {
		name           string
		from, to, long int
		first, last    int
	}{
		{"a train of 0", 20, 60, 0, 20, 60},
		{"a train of 1", 20, 60, 1, 20, 61},
		{"a zone at one place", 20, 20, 0, 20, 20},
		{"a zone at one place, a train", 20, 20, 7, 20, 27},
		{"a zone at place 0", 0, 0, 0, 0, 0},
		{"a zone at place 0, a train", 0, 0, 3, 0, 3},
		{"a zone at the last place", 200, 200, 5, 200, 200},
		{"a zone over everything", 0, 200, 0, 0, 200},
		{"To + Train just at the last place", 20, 60, 140, 20, 200},
		{"To + Train beyond the last place", 20, 60, 141, 20, 200},
		{"To + Train ahead of the last place", 20, 60, 139, 20, 199},
		{"a train of MaxLen", 20, 60, impl.MaxLen, 20, 200},
	} {
		p := withZones(level(200, 10), impl.Zone{From: c.from, To: c.to, Speed: 33})
		p.Train = c.long
		for x := 0; x <= 200; x++ {
			want := impl.MaxSpeed
			if x >= c.first && x <= c.last {
				want = 33
			}
			if got := impl.LimitAt(p, x); got != want {
				t.Errorf("%s: at %d: %d, want %d", c.name, x, got, want)
			}
		}
	}
}

func TestLimitAtWithoutZones(t *testing.T) {
	p := threePieces()
	for _, zones := range [][]impl.Zone{nil, {}} {
		p.Zones = zones
		for x := 0; x <= 200; x++ {
			if got := impl.LimitAt(p, x); got != impl.MaxSpeed {
				t.Fatalf("at %d: %d, want %d", x, got, impl.MaxSpeed)
			}
		}
	}
}

// The zone that counts stands in turn at each place of the list: which one it is must not matter.
func TestLimitAtManyZones(t *testing.T) {
	for i := range impl.MaxZones {
		p := level(200, 10)
		p.Zones = slices.Repeat([]impl.Zone{{From: 0, To: 200, Speed: 9000}}, impl.MaxZones)
		p.Zones[i] = impl.Zone{From: 10, To: 20, Speed: 1}
		for x, want := range map[int]int{9: 9000, 10: 1, 20: 1, 21: 9000} {
			if got := impl.LimitAt(p, x); got != want {
				t.Errorf("zone %d, at %d: %d, want %d", i, x, got, want)
			}
		}
	}
}

func TestLimitAtTheGreatestProfile(t *testing.T) {
	last := impl.MaxPieces * mostLen
	p := withZones(manyPieces(impl.MaxPieces, mostLen, 10), impl.Zone{From: last, To: last, Speed: 7}, impl.Zone{From: 5, To: last, Speed: 8})
	p.Train = impl.MaxLen
	for x, want := range map[int]int{0: 10000, 4: 10000, 5: 8, last - 1: 8, last: 7, last + 1: -1} {
		if got := impl.LimitAt(p, x); got != want {
			t.Errorf("at %d: %d, want %d", x, got, want)
		}
	}
}

func TestStandAtInputs(t *testing.T) {
	short := impl.Profile{Pieces: []impl.Piece{{Len: 10, Brake: 10}, {Len: 5, Brake: 1000}, {Len: 200, Brake: 10}}}
	for _, c := range []struct {
		name       string
		p          impl.Profile
		x, v, want int
	}{
		{"on one piece", threePieces(), 0, 45, 35 + 25 + 15 + 5},
		{"from a place between two pieces", threePieces(), 100, 1000, 100},
		{"from there, one faster", threePieces(), 100, 1001, 101},
		{"from just ahead of it", threePieces(), 99, 45, 99 + 35 + 10},
		{"a move that ends just between two pieces", threePieces(), 65, 45, 100},
		{"a move that ends one ahead of it", threePieces(), 64, 45, 99 + 25},
		{"a move that ends one beyond it", threePieces(), 66, 45, 101},
		{"a move over a whole piece", short, 0, 45, 35 + 25 + 15 + 5},
		{"a move that ends in that piece", short, 0, 20, 10},
		{"a move that ends behind that piece", short, 0, 25, 15 + 5},
		{"a speed of 0 at place 0", threePieces(), 0, 0, 0},
		{"a speed of 0 between two pieces", threePieces(), 100, 0, 100},
		{"a speed of 0 at the last place", threePieces(), 200, 0, 200},
		{"a speed of 1", threePieces(), 5, 1, 5},
		{"just the brake", threePieces(), 5, 10, 5},
		{"one above the brake", threePieces(), 5, 11, 6},
		{"just the brake at the last place", threePieces(), 200, 25, 200},
		{"one above the brake at the last place", threePieces(), 200, 26, -1},
		{"one above the brake just ahead of it", threePieces(), 199, 26, 200},
		{"it stands just at the last place", level(45, 10), 0, 35, 45},
		{"it comes one beyond it", level(44, 10), 0, 35, -1},
		{"it comes one beyond it, from one farther", level(45, 10), 1, 35, -1},
		{"it comes far beyond it", threePieces(), 0, 10000, -1},
		{"beyond the end, which is no place to stand at here", threePieces(), 190, 30, 195},
		{"a limit does not brake", withZones(level(100, 10), impl.Zone{From: 0, To: 100, Speed: 1}), 0, 35, 45},
		{"a piece of 1, just the brake", level(1, 10), 0, 11, 1},
		{"a piece of 1, one more", level(1, 10), 0, 12, -1},
	} {
		if got := impl.StandAt(c.p, c.x, c.v); got != c.want {
			t.Errorf("%s: StandAt(%v, %d, %d) is %d, want %d", c.name, c.p, c.x, c.v, got, c.want)
		}
	}
}

func TestStandAtMaxSpeed(t *testing.T) {
	p := manyPieces(impl.MaxPieces, mostLen, impl.MinBrake)
	last := impl.MaxPieces * mostLen
	for x, want := range map[int]int{0: 4995000, last - 4995000: last, last - 4994999: -1, last: -1} {
		if got := impl.StandAt(p, x, impl.MaxSpeed); got != want {
			t.Errorf("from %d: %d, want %d", x, got, want)
		}
	}
}

// Where all pieces brake alike it is what chapter 1 says, in however many pieces.
func TestStandAtIsSlowLen(t *testing.T) {
	for _, b := range someBrakes() {
		for _, p := range []impl.Profile{level(mostLen, b), manyPieces(60, 1, b), manyPieces(59, 777, b)} {
			last := lastPlace(p)
			for _, v := range someSpeeds() {
				for _, x := range []int{0, 1, last / 2, last - 1, last} {
					want := x + impl.SlowLen(v, 0, b)
					if want > last {
						want = -1
					}
					if got := impl.StandAt(p, x, v); got != want {
						t.Fatalf("%d long, brake %d: StandAt(.., %d, %d) is %d, want %d", last, b, x, v, got, want)
					}
				}
			}
		}
	}
}

func TestSmallProfilesAtEveryPlace(t *testing.T) {
	for _, p := range smallProfiles() {
		brakes, limits := brakesByPlace(p), limitsByPlace(p)
		for x := range brakes {
			if got := impl.BrakeAt(p, x); got != brakes[x] {
				t.Fatalf("BrakeAt(%v, %d) is %d, want %d", p, x, got, brakes[x])
			}
			if got := impl.LimitAt(p, x); got != limits[x] {
				t.Fatalf("LimitAt(%v, %d) is %d, want %d", p, x, got, limits[x])
			}
			for v := 0; v <= 400; v += 1 + v/20 {
				if got, want := impl.StandAt(p, x, v), standByTicks(brakes, x, v); got != want {
					t.Fatalf("StandAt(%v, %d, %d) is %d, want %d", p, x, v, got, want)
				}
			}
		}
	}
}

// On the long profile there would be room for speeds beyond MaxSpeed.
func TestNoPlaceOrNoSpeed(t *testing.T) {
	for _, p := range append(smallProfiles(), manyPieces(impl.MaxPieces, mostLen, impl.MaxBrake)) {
		last := lastPlace(p)
		for _, x := range append(beyond(0, last), -last, last+2) {
			if got := impl.BrakeAt(p, x); got != -1 {
				t.Errorf("BrakeAt(%v, %d) is %d, want -1", p, x, got)
			}
			if got := impl.LimitAt(p, x); got != -1 {
				t.Errorf("LimitAt(%v, %d) is %d, want -1", p, x, got)
			}
			for _, v := range []int{0, 1, 10000, -1, 10001} {
				if got := impl.StandAt(p, x, v); got != -1 {
					t.Errorf("StandAt(%v, %d, %d) is %d, want -1", p, x, v, got)
				}
			}
		}
		for _, v := range beyond(0, impl.MaxSpeed) {
			for _, x := range []int{0, last} {
				if got := impl.StandAt(p, x, v); got != -1 {
					t.Errorf("StandAt(%v, %d, %d) is %d, want -1", p, x, v, got)
				}
			}
		}
	}
}

// withSpare gives the lists room behind their end, where a write would go unseen by whoever looks at the profile alone.
func withSpare(p impl.Profile) impl.Profile {
	p.Pieces = append(slices.Clone(p.Pieces), impl.Piece{Len: 77, Brake: 77})[:len(p.Pieces)]
	p.Zones = append(slices.Clone(p.Zones), impl.Zone{From: 7, To: 77, Speed: 777})[:len(p.Zones)]
	return p
}

func whole(p impl.Profile) impl.Profile {
	p.Pieces = slices.Clone(p.Pieces[:len(p.Pieces)+1])
	p.Zones = slices.Clone(p.Zones[:len(p.Zones)+1])
	return p
}

// alsoSpoilt adds to the profiles one for each fault.
func alsoSpoilt(profiles []impl.Profile) []impl.Profile {
	for _, f := range profileFaults() {
		p := threePieces()
		f.spoil(&p)
		profiles = append(profiles, p)
	}
	return profiles
}

// checkUnwritten asks twice: the answers have to be the same, and the profile as it was.
func checkUnwritten(t *testing.T, p impl.Profile, answers func(p impl.Profile) []any) {
	t.Helper()
	given := withSpare(p)
	before := whole(given)
	first := answers(given)
	if again := answers(given); !reflect.DeepEqual(first, again) {
		t.Errorf("%v: %v, then %v", p, first, again)
	}
	if after := whole(given); !reflect.DeepEqual(before, after) {
		t.Errorf("%v became %v", before, after)
	}
}

func TestProfileIsNotWritten(t *testing.T) {
	for _, p := range alsoSpoilt(smallProfiles()) {
		checkUnwritten(t, p, func(p impl.Profile) []any {
			out := []any{impl.ProfileOk(p)}
			for _, x := range []int{0, 1, 50, 100, 200, -1} {
				out = append(out, impl.BrakeAt(p, x), impl.LimitAt(p, x), impl.StandAt(p, x, 45))
			}
			return out
		})
	}
}
