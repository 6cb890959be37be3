package power_test

import (
	"slices"
	"testing"

	"deedbox/power"
)

// TestExample: the chapter's example.
func TestExample(t *testing.T) {
	p := power.New()
	p.Fuse(1, true)
	checkStep(t, p, true, 1)
	checkStep(t, p, false, 1)
	checkStep(t, p, false, 0)
	checkPower(t, p, true, 2)
}

// doneOf does so many steps on power that goes at one of them (below 0: at none): which were done, in order, and what each of them answered.
func doneOf(steps, n int, done bool) (were []int, there []bool) {
	p := power.New()
	p.Fuse(n, done)
	for i := range steps {
		there = append(there, p.Step(func() { were = append(were, i) }))
	}
	return were, there
}

// TestAheadAndBehind: 8.5, all steps ahead of the one at which it goes are done, in order, and none behind it; 8.3, those ahead alone answer true.
func TestAheadAndBehind(t *testing.T) {
	const steps = 20
	for n := range steps {
		for _, done := range []bool{false, true} {
			were, there := doneOf(steps, n, done)
			var want []int
			for i := range n {
				want = append(want, i)
			}
			if done {
				want = append(want, n)
			}
			if !slices.Equal(were, want) {
				t.Errorf("it goes at %d, %t: done were %v, want %v", n, done, were, want)
			}
			for i, b := range there {
				if b != (i < n) {
					t.Errorf("it goes at %d, %t: step %d answers %t", n, done, i, b)
				}
			}
		}
	}
}

// TestDoneWhenItAnswers: 8.3, a step is done when Step answers, and not once more later.
func TestDoneWhenItAnswers(t *testing.T) {
	p := power.New()
	times := make([]int, 6)
	for i := range times {
		if i == 3 {
			p.Fuse(1, true)
		}
		p.Step(func() { times[i]++ })
		if (times[i] == 1) != (i <= 4) {
			t.Errorf("step %d: done %d times", i, times[i])
		}
	}
	p.Back()
	p.Fuse(-1, true)
	checkStays(t, p)
	if want := []int{1, 1, 1, 1, 1, 0}; !slices.Equal(times, want) {
		t.Errorf("done %v times, want %v", times, want)
	}
}

// TestAskingIsNoStep: 8.3, Down, Steps, Fuse and Back are no steps, and asking changes nothing.
func TestAskingIsNoStep(t *testing.T) {
	p := power.New()
	for range 10 {
		p.Back()
		p.Fuse(2, false)
		checkPower(t, p, false, 0)
	}
	for range 10 {
		checkPower(t, p, false, 0)
	}
	checkGoes(t, p, 2, false)
}

// TestSettledAheadOfDo: 8.3, there is one step more when do is called; what it says of steps to come counts from the next one on.
func TestSettledAheadOfDo(t *testing.T) {
	for n := range 4 {
		p := power.New()
		if !p.Step(func() {
			checkPower(t, p, false, 1)
			p.Fuse(n, true)
		}) {
			t.Errorf("fused within, %d: it went at that step", n)
		}
		checkPower(t, p, false, 1)
		checkGoes(t, p, n, true)
	}
}

// TestStepWithinAStep: 8.5, a step within the one at which it goes is behind it: it is not done, and none.
func TestStepWithinAStep(t *testing.T) {
	p := power.New()
	p.Fuse(1, true)
	if !p.Step(func() {}) {
		t.Error("it went at the first step")
	}
	if p.Step(func() {
		checkPower(t, p, true, 2)
		checkStep(t, p, false, 0)
	}) {
		t.Error("it did not go at the second step")
	}
	checkPower(t, p, true, 2)
}

// TestWithinAStepItGoes: 8.3, the step without, at which it did not go, is true.
func TestWithinAStepItGoes(t *testing.T) {
	p := power.New()
	p.Fuse(1, false)
	if !p.Step(func() { checkStep(t, p, false, 0) }) {
		t.Error("it went at the step without")
	}
	checkPower(t, p, true, 2)
}

// TestBackWithinAStep: 8.3, 8.4, a step at which it went is false, though it is there again.
func TestBackWithinAStep(t *testing.T) {
	p := power.New()
	p.Fuse(0, true)
	if p.Step(p.Back) {
		t.Error("it did not go")
	}
	checkPower(t, p, false, 1)
	checkStays(t, p)
}

// checkSteps does steps with do, on power that goes at the third one: true, true, false, false.
func checkSteps(t *testing.T, do func()) {
	t.Helper()
	for _, done := range []bool{false, true} {
		p := power.New()
		p.Fuse(2, done)
		var there []bool
		for range 4 {
			there = append(there, p.Step(do))
		}
		if want := []bool{true, true, false, false}; !slices.Equal(there, want) {
			t.Errorf("%v, want %v", there, want)
		}
		checkPower(t, p, true, 3)
		p.Back()
		checkStays(t, p)
	}
}

// TestNothingToDo: P0, where do is nil, there is nothing to do, but a step.
func TestNothingToDo(t *testing.T) {
	checkSteps(t, nil)
}

// TestDoPanics: P0, no call panics, though do does: the step was one.
func TestDoPanics(t *testing.T) {
	times := 0
	checkSteps(t, func() {
		times++
		panic("within")
	})
	if times != 2+3 {
		t.Errorf("do was called %d times, want 5", times)
	}
	checkSteps(t, func() { panic(nil) })
}
