package power_test

import (
	"math"
	"testing"

	"deedbox/power"
)

// behind is how many steps these tests try behind the one at which the power goes.
const behind = 5

// step does a step, and tells what came of it: what it answered, and how often what it does was done.
func step(p *power.Power) (there bool, times int) {
	there = p.Step(func() { times++ })
	return there, times
}

// checkStep does a step, and holds what came of it against what is wanted.
func checkStep(t *testing.T, p *power.Power, there bool, times int) {
	t.Helper()
	if gotThere, gotTimes := step(p); gotThere != there || gotTimes != times {
		t.Errorf("a step: %t, done %d times, want %t, %d times", gotThere, gotTimes, there, times)
	}
}

// checkPower holds whether it has gone, and how many steps there were, against what is wanted.
func checkPower(t *testing.T, p *power.Power, down bool, steps int) {
	t.Helper()
	if p.Down() != down || p.Steps() != steps {
		t.Errorf("down %t, %d steps, want %t, %d steps", p.Down(), p.Steps(), down, steps)
	}
}

// checkStays does many steps, none of which it goes at.
func checkStays(t *testing.T, p *power.Power) {
	t.Helper()
	was := p.Steps()
	for i := range 100 {
		checkStep(t, p, true, 1)
		checkPower(t, p, false, was+i+1)
	}
}

// checkGoes does so many steps ahead, the one at which it goes, and some behind it.
func checkGoes(t *testing.T, p *power.Power, ahead int, done bool) {
	t.Helper()
	was := p.Steps()
	for i := range ahead {
		checkStep(t, p, true, 1)
		checkPower(t, p, false, was+i+1)
	}
	times := 0
	if done {
		times = 1
	}
	checkStep(t, p, false, times)
	checkPower(t, p, true, was+ahead+1)
	for range behind {
		checkStep(t, p, false, 0)
		checkPower(t, p, true, was+ahead+1)
	}
}

// TestNew: 8.1, it is there, there were no steps, and it does not go.
func TestNew(t *testing.T) {
	p := power.New()
	if p == nil {
		t.Fatal("no power")
	}
	checkPower(t, p, false, 0)
	checkStays(t, p)
}

// TestEachIsItsOwn: 8.1, the one that goes takes no other one with it, and counts no steps of it.
func TestEachIsItsOwn(t *testing.T) {
	p, other := power.New(), power.New()
	p.Fuse(0, true)
	checkGoes(t, p, 0, true)
	checkPower(t, other, false, 0)
	checkStays(t, other)
	checkPower(t, p, true, 1)
	checkPower(t, power.New(), false, 0)
}

// TestFuse: 8.2, it goes at the next step, or at one behind it, however many there were ahead; what is atomic then is done, or not.
func TestFuse(t *testing.T) {
	for before := range 12 {
		for n := range 40 {
			for _, done := range []bool{false, true} {
				p := power.New()
				for range before {
					step(p)
				}
				p.Fuse(n, done)
				checkPower(t, p, false, before)
				checkGoes(t, p, n, done)
			}
		}
	}
}

// TestFuseFarOff: 8.2, of many steps all are done, up to the one at which it goes.
func TestFuseFarOff(t *testing.T) {
	const n = 1 << 17
	p := power.New()
	p.Fuse(n, false)
	for range n {
		if there, times := step(p); !there || times != 1 {
			t.Fatalf("step %d: %t, done %d times", p.Steps(), there, times)
		}
	}
	checkGoes(t, p, 0, false)
	checkPower(t, p, true, n+1)
}

// TestFuseBelowNought: 8.2, below 0 it goes at no step.
func TestFuseBelowNought(t *testing.T) {
	for _, n := range []int{-1, -2, -3, -512, math.MinInt32, math.MinInt + 1, math.MinInt} {
		for _, done := range []bool{false, true} {
			for before := range 3 {
				p := power.New()
				for range before {
					step(p)
				}
				p.Fuse(n, done)
				checkPower(t, p, false, before)
				checkStays(t, p)
			}
		}
	}
}

// TestFuseAtTheGreatest: 8.2, steps that are so far off that no count reaches them are steps to come, whatever there was ahead.
func TestFuseAtTheGreatest(t *testing.T) {
	for _, n := range []int{math.MaxInt32, math.MaxInt - 1, math.MaxInt} {
		for _, done := range []bool{false, true} {
			for before := range 4 {
				p := power.New()
				for range before {
					step(p)
				}
				p.Fuse(n, done)
				checkStays(t, p)
				p.Fuse(1, done)
				checkGoes(t, p, 1, done)
			}
		}
	}
}

// TestLaterFuse: 8.2, a later one takes the place of the one ahead, be it sooner, later, or none, with what is done at it.
func TestLaterFuse(t *testing.T) {
	for first := -1; first < 8; first++ {
		for steps := range max(first, 0) + 1 {
			for second := -1; second < 10; second++ {
				for kind := range 4 {
					p := power.New()
					p.Fuse(first, kind&1 == 1)
					for range steps {
						checkStep(t, p, true, 1)
					}
					p.Fuse(second, kind&2 == 2)
					checkPower(t, p, false, steps)
					if second < 0 {
						checkStays(t, p)
					} else {
						checkGoes(t, p, second, kind&2 == 2)
					}
				}
			}
		}
	}
}

// TestFuseBringsNothingBack: 8.2, 8.3, what has gone has gone, whatever is said of steps to come; 8.4, and that is not kept until it comes again.
func TestFuseBringsNothingBack(t *testing.T) {
	for _, n := range []int{math.MinInt, -1, 0, 1, 2, math.MaxInt} {
		for _, done := range []bool{false, true} {
			p := power.New()
			p.Fuse(0, false)
			checkGoes(t, p, 0, false)
			p.Fuse(n, done)
			checkPower(t, p, true, 1)
			for range behind {
				checkStep(t, p, false, 0)
			}
			checkPower(t, p, true, 1)
			p.Back()
			checkPower(t, p, false, 1)
			checkStays(t, p)
		}
	}
}

// TestBack: 8.4, power that has gone is there again, does not go, and can be fused again; 8.3, its steps are counted on.
func TestBack(t *testing.T) {
	p := power.New()
	steps := 0
	for n := range 10 {
		for _, done := range []bool{false, true} {
			p.Fuse(n, done)
			checkGoes(t, p, n, done)
			steps += n + 1
			p.Back()
			checkPower(t, p, false, steps)
			checkStays(t, p)
			steps += 100
		}
	}
}

// TestBackTakesTheFuseOff: 8.4, power that is there does not go behind Back either, at whatever step it was to go.
func TestBackTakesTheFuseOff(t *testing.T) {
	for n := range 10 {
		for steps := range n + 1 {
			for _, done := range []bool{false, true} {
				p := power.New()
				p.Fuse(n, done)
				for range steps {
					checkStep(t, p, true, 1)
				}
				p.Back()
				checkPower(t, p, false, steps)
				checkStays(t, p)
			}
		}
	}
}

// TestBackOfNew: 8.4, power that was never to go is as it was.
func TestBackOfNew(t *testing.T) {
	p := power.New()
	p.Back()
	p.Back()
	checkPower(t, p, false, 0)
	checkStays(t, p)
	p.Fuse(2, true)
	checkGoes(t, p, 2, true)
}
