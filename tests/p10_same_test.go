package tests

import (
	"fmt"
	"slices"
	"sync"
	"testing"

	"loop.example/sprag/impl"
)

// given is what the functions are asked with; speeds are wants, too.
type given struct {
	p      impl.Profile
	x, v   int
	speeds []int
	text   string
}

// asked are the functions of the document, all of them. What they answer is told as a text: that shares no memory with it, and has nil and an empty list alike.
var asked = []struct {
	name string
	ask  func(g given) string
}{
	{"SlowLen", func(g given) string { return fmt.Sprint(impl.SlowLen(g.v, g.x, 13), impl.SlowLen(g.v, 5, g.x)) }},
	{"SlowTicks", func(g given) string { return fmt.Sprint(impl.SlowTicks(g.v, g.x, 13), impl.SlowTicks(g.v, 5, g.x)) }},
	{"MostSpeed", func(g given) string {
		return fmt.Sprint(impl.MostSpeed(g.x, g.v, 13, 2), impl.MostSpeed(g.p.End, 0, 10, g.p.Delay))
	}},
	{"LeastBrake", func(g given) string {
		return fmt.Sprint(impl.LeastBrake(g.x, g.v, 0), impl.LeastBrake(g.p.End, 99, g.v))
	}},
	{"ProfileOk", func(g given) string { return fmt.Sprint(impl.ProfileOk(g.p)) }},
	{"BrakeAt", func(g given) string { return fmt.Sprint(impl.BrakeAt(g.p, g.x)) }},
	{"LimitAt", func(g given) string { return fmt.Sprint(impl.LimitAt(g.p, g.x)) }},
	{"StandAt", func(g given) string { return fmt.Sprint(impl.StandAt(g.p, g.x, g.v)) }},
	{"Safe", func(g given) string { return fmt.Sprint(impl.Safe(g.p, g.x, g.v)) }},
	{"MostNow", func(g given) string { return fmt.Sprint(impl.MostNow(g.p, g.x)) }},
	{"Curve", func(g given) string { return fmt.Sprint(impl.Curve(g.p, 1+max(g.p.End, 0)/9)) }},
	{"Watch", func(g given) string {
		return fmt.Sprint(impl.Watch(g.p, g.x, 0, g.speeds), impl.Watch(g.p, g.x, g.v, g.speeds))
	}},
	{"RunOk", func(g given) string {
		return fmt.Sprint(impl.RunOk(g.p, 20, g.x, impl.MaxRun, g.speeds), impl.RunOk(g.p, 3, g.x, 0, g.speeds))
	}},
	{"Fastest", func(g given) string { return fmt.Sprint(impl.Fastest(g.p, 7, g.x, 0), impl.Fastest(g.p, 20, g.x, 30)) }},
	{"WriteProfile", func(g given) string { return impl.WriteProfile(g.p) }},
	{"ReadProfile", func(g given) string { return fmt.Sprint(impl.ReadProfile(g.text), impl.ReadProfile(written(g.p))) }},
}

// someGiven are right and wrong ones, with room behind each list.
func someGiven() []given {
	var out []given
	for i, p := range alsoSpoilt(slices.Concat(smallProfiles(), drawnWays(20, 60), []impl.Profile{ofTextLen(impl.MaxText), ofTextLen(impl.MaxText + 1), {}})) {
		text := written(p)
		out = append(out, given{
			p:      withSpare(p),
			x:      i % 7 * 5,
			v:      i % 11 * 4,
			speeds: []int{5, 9, 3, 0, i % 40, 0, 77, 78}[:6],
			text:   text[:max(len(text)-i%4*3, 0)],
		})
	}
	return out
}

// elsewhere is the same argument in other memory, with an empty list for nil and nil for an empty list, and without room behind the lists.
func (g given) elsewhere() given {
	g.p.Pieces = otherList(g.p.Pieces)
	g.p.Zones = otherList(g.p.Zones)
	g.speeds = otherList(g.speeds)
	g.text = string([]byte(g.text))
	return g
}

func otherList[T any](list []T) []T {
	if len(list) == 0 && list != nil {
		return nil
	}
	return append(make([]T, 0, len(list)), list...)
}

// allOf is all that a given holds, with what stands behind the end of its lists.
func (g given) allOf() string {
	return fmt.Sprint(g, g.p.Pieces[:cap(g.p.Pieces)], g.p.Zones[:cap(g.p.Zones)], g.speeds[:cap(g.speeds)])
}

func TestNothingIsWrittenIntoAnArgument(t *testing.T) {
	for _, g := range someGiven() {
		before := g.allOf()
		for _, f := range asked {
			f.ask(g)
			if after := g.allOf(); after != before {
				t.Fatalf("%s: %s became %s", f.name, before, after)
			}
		}
	}
}

// answersTo asks every function with every given: the answers by both.
func answersTo(all []given) [][]string {
	out := make([][]string, len(all))
	for i, g := range all {
		for _, f := range asked {
			out[i] = append(out[i], f.ask(g))
		}
	}
	return out
}

// Nothing that is asked in between may be seen in an answer: the functions are asked again at once, and the other way round, with the same in other memory.
func TestTheSameArgumentHasTheSameAnswer(t *testing.T) {
	all := someGiven()
	first := answersTo(all)
	for i := len(all) - 1; i >= 0; i-- {
		for j := len(asked) - 1; j >= 0; j-- {
			for _, g := range []given{all[i], all[i], all[i].elsewhere()} {
				if again := asked[j].ask(g); again != first[i][j] {
					t.Fatalf("%s: %s: %s, then %s", asked[j].name, g.allOf(), first[i][j], again)
				}
			}
		}
	}
}

func TestTheSameAnswerWhoeverElseAsks(t *testing.T) {
	all := someGiven()[:60]
	first := answersTo(all)
	again := make([][][]string, 4)
	var wait sync.WaitGroup
	for i := range again {
		wait.Go(func() { again[i] = answersTo(all) })
	}
	wait.Wait()
	for _, answers := range again {
		for i := range all {
			if !slices.Equal(answers[i], first[i]) {
				t.Fatalf("%s: %q, then %q", all[i].allOf(), first[i], answers[i])
			}
		}
	}
}

// overwritten writes over a list, and over the room behind it.
func overwritten[T any](list []T, with T) {
	list = list[:cap(list)]
	for i := range list {
		list[i] = with
	}
}

// listed are the functions that answer with lists; each tells its answer, and writes over it.
var listed = []struct {
	name string
	ask  func(g given) (tell func() string, overwrite func())
}{
	{"Curve", func(g given) (func() string, func()) {
		got := impl.Curve(g.p, 1+max(g.p.End, 0)/9)
		return func() string { return fmt.Sprint(got) }, func() { overwritten(got, impl.Point{At: -9, Speed: -9}) }
	}},
	{"Watch", func(g given) (func() string, func()) {
		got := impl.Watch(g.p, g.x, 0, g.speeds)
		return func() string { return fmt.Sprint(got) }, func() { overwritten(got.Speeds, -9) }
	}},
	{"Fastest", func(g given) (func() string, func()) {
		got := impl.Fastest(g.p, 7, g.x, 3)
		return func() string { return fmt.Sprint(got) }, func() { overwritten(got.Speeds, -9) }
	}},
	{"ReadProfile", func(g given) (func() string, func()) {
		got := impl.ReadProfile(written(g.p))
		return func() string { return fmt.Sprint(got) }, func() {
			overwritten(got.Profile.Pieces, impl.Piece{Len: -9, Brake: -9})
			overwritten(got.Profile.Zones, impl.Zone{From: -9, To: -9, Speed: -9})
		}
	}},
}

func TestAnAnswerSharesNoMemory(t *testing.T) {
	for _, g := range someGiven() {
		before := g.allOf()
		for _, f := range listed {
			tell, _ := f.ask(g)
			want := tell()
			for _, other := range listed {
				_, overwrite := other.ask(g)
				overwrite()
				if got := tell(); got != want {
					t.Fatalf("%s: %s became %s as an answer of %s was written over", f.name, want, got, other.name)
				}
			}
			if after := g.allOf(); after != before {
				t.Fatalf("%s: %s became %s as an answer was written over", f.name, before, after)
			}
			if later, _ := f.ask(g); later() != want {
				t.Fatalf("%s: %s, later %s", f.name, want, later())
			}
		}
	}
}

func TestAnAnswerOutlivesItsArgument(t *testing.T) {
	for _, g := range someGiven() {
		for _, f := range listed {
			mine := g.elsewhere()
			tell, _ := f.ask(mine)
			want := tell()
			overwritten(mine.p.Pieces, impl.Piece{Len: -9, Brake: -9})
			overwritten(mine.p.Zones, impl.Zone{From: -9, To: -9, Speed: -9})
			overwritten(mine.speeds, -9)
			if got := tell(); got != want {
				t.Fatalf("%s: %s became %s as its argument was written over", f.name, want, got)
			}
		}
	}
}

// A text that was written stays as it was when the profile changes, and one that was read is a profile of its own.
func TestATextIsItsOwn(t *testing.T) {
	p := threePieces()
	text := impl.WriteProfile(p)
	want := written(threePieces())
	read := impl.ReadProfile(text).Profile
	overwritten(p.Pieces, impl.Piece{Len: 1, Brake: 10})
	overwritten(p.Zones, impl.Zone{Speed: 1})
	if text != want || !sameProfile(read, threePieces()) {
		t.Errorf("%q, %v, want %q, %v", text, read, want, threePieces())
	}
	overwritten(read.Pieces, impl.Piece{})
	overwritten(read.Zones, impl.Zone{})
	if again := impl.ReadProfile(text).Profile; text != want || !sameProfile(again, threePieces()) {
		t.Errorf("%q, %v, want %q, %v", text, again, want, threePieces())
	}
}

// The sharing is looked for at answers that are there: each function has one with lists that are not empty.
func TestSomeAnswersHaveLists(t *testing.T) {
	long := map[string]int{}
	for _, g := range someGiven() {
		for _, f := range listed {
			tell, overwrite := f.ask(g)
			before := tell()
			if overwrite(); tell() != before {
				long[f.name]++
			}
		}
	}
	for _, f := range listed {
		if long[f.name] < 10 {
			t.Errorf("%s: %d answers with lists", f.name, long[f.name])
		}
	}
}
