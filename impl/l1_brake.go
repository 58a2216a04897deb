package impl

const (
	MaxSpeed = 10000
	MinBrake = 10
	MaxBrake = 1000
	MaxDelay = 20
	MaxLen   = 100000000
)

func SlowLen(v, u, b int) int {
	s := slowing{from: v, to: u, brake: b}
	if !s.isRight() {
		return -1
	}
	return s.length()
}

func SlowTicks(v, u, b int) int {
	s := slowing{from: v, to: u, brake: b}
	if !s.isRight() {
		return -1
	}
	return s.ticks()
}

// Speed 0 always fits in, so one less than the first speed that is too fast is a speed.
func MostSpeed(room, u, b, delay int) int {
	if !isLength(room) || !isSpeed(u) || !isBrake(b) || !isDelay(delay) {
		return -1
	}
	a := approach{room: room, to: u, brake: b, delay: delay}
	return leastWith(0, MaxSpeed+1, a.isTooFast) - 1
}

func LeastBrake(room, v, u int) int {
	if !isLength(room) || !isSpeed(v) || !isSpeed(u) {
		return -1
	}
	n := need{room: room, from: v, to: u}
	least := leastWith(MinBrake, MaxBrake+1, n.isMetBy)
	if !isBrake(least) {
		return 0
	}
	return least
}

// slowing is a train that slows down from one speed to another.
type slowing struct{ from, to, brake int }

func (s slowing) isRight() bool {
	return isSpeed(s.from) && isSpeed(s.to) && isBrake(s.brake)
}

func (s slowing) wholeAndRest() (whole, rest int) {
	drop := max(s.from-s.to, 0)
	return drop / s.brake, drop % s.brake
}

// A rest below the brake takes a tick of its own.
func (s slowing) ticks() int {
	whole, rest := s.wholeAndRest()
	if rest > 0 {
		return whole + 1
	}
	return whole
}

// Every tick moves by the speed that is slowed down to; what is above it falls by one brake from tick to tick, from whole-1 brakes and the rest to the rest alone, and sums up in closed form.
func (s slowing) length() int {
	whole, rest := s.wholeAndRest()
	return s.ticks()*s.to + whole*rest + s.brake*whole*(whole-1)/2
}

// approach is the room in which a train has to have slowed down, and what it does so with.
type approach struct{ room, to, brake, delay int }

// Neither part becomes less as the speed grows: what is too fast stays so above.
func (a approach) isTooFast(speed int) bool {
	s := slowing{from: speed, to: a.to, brake: a.brake}
	return a.delay*speed+s.length() > a.room
}

// need is the room in which a brake has to slow a train down.
type need struct{ room, from, to int }

// A stronger brake never comes farther: what is enough stays so above.
func (n need) isMetBy(brake int) bool {
	s := slowing{from: n.from, to: n.to, brake: brake}
	return s.length() <= n.room
}

// leastWith is the least number from low on, below high, for which holds is true, or high; because it searches by halves, holds has to stay true above the first number for which it is.
func leastWith(low, high int, holds func(int) bool) int {
	for low < high {
		middle := low + (high-low)/2
		if holds(middle) {
			high = middle
		} else {
			low = middle + 1
		}
	}
	return low
}

func isSpeed(v int) bool { return v >= 0 && v <= MaxSpeed }

func isBrake(b int) bool { return b >= MinBrake && b <= MaxBrake }

func isDelay(d int) bool { return d >= 0 && d <= MaxDelay }

func isLength(l int) bool { return l >= 0 && l <= MaxLen }
