package flash_test

import (
	"bytes"
	"fmt"
	"math"
	"testing"

	"capsule/api"
)

// P4.3: cuts at operations that were executed, that are none, and with numbers of bytes that a page does not have; they leave an earlier cut as it is.
func TestInvalidCuts(t *testing.T) {
	d := made(t, small)
	gives(t, "a cut before all operations", d.Cut(-1, 0), api.ErrArg)
	programs(t, d, 0, 1, api.OK)
	gives(t, "Erase", d.Erase(1), api.OK)
	gives(t, "Cut", d.Cut(3, 4), api.OK)
	unchanged(t, d, func() {
		for _, operation := range []int{0, 1, -1, -2, math.MinInt} {
			for _, n := range []int{0, 4, 69} {
				gives(t, fmt.Sprintf("Cut(%d, %d)", operation, n), d.Cut(operation, n), api.ErrArg)
			}
		}
		for _, n := range []int{-1, -2, 70, 71, math.MinInt, math.MaxInt} {
			for _, operation := range []int{0, 2, 3, 100} {
				gives(t, fmt.Sprintf("Cut(%d, %d)", operation, n), d.Cut(operation, n), api.ErrArg)
			}
		}
	})
	gives(t, "Erase", d.Erase(1), api.OK)
	programs(t, d, 0, 2, api.ErrPower)
}

// P4.3: a cut comes at its operation, be it the next one or a later one, and at no other.
func TestCutOperation(t *testing.T) {
	for first := range 4 {
		for later := range 6 {
			d := made(t, small)
			for i := range first {
				programs(t, d, i%3, i, api.OK)
			}
			gives(t, "Cut", d.Cut(first+later, 5), api.OK)
			for i := range later {
				programs(t, d, (first+i)%3, i, api.OK)
			}
			isAt(t, d, first+later, true)
			programs(t, d, (first+later)%3, 9, api.ErrPower)
			isAt(t, d, first+later+1, false)
			gives(t, "Restart", d.Restart(), api.OK)
			programs(t, d, 0, 9, api.OK)
		}
	}
}

// P4.3: cuts at operations that never come.
func TestCutThatNeverComes(t *testing.T) {
	for _, operation := range []int{12, 1 << 40, math.MaxInt} {
		d := made(t, small)
		gives(t, "Cut", d.Cut(operation, 69), api.OK)
		for i := range 12 {
			programs(t, d, i/4, i, api.OK)
		}
		isAt(t, d, 12, true)
	}
}

// P4.3: a cut takes the place of an earlier one, with its operation and its number of bytes, be it before or after that.
func TestCutInPlaceOfAnother(t *testing.T) {
	d := made(t, small)
	gives(t, "Cut", d.Cut(1, 2), api.OK)
	gives(t, "Cut", d.Cut(3, 4), api.OK)
	for i := range 3 {
		programs(t, d, 0, i, api.OK)
	}
	gives(t, "Cut", d.Cut(9, 1), api.OK)
	gives(t, "Cut", d.Cut(3, 69), api.OK)
	gives(t, "Cut", d.Cut(3, 3), api.OK)
	programs(t, d, 0, 7, api.ErrPower)
	gives(t, "Restart", d.Restart(), api.OK)
	contains(t, d, 0, 3, string(filled(3, 7))+string(bytes.Repeat([]byte{0xFF}, 66)))
	for i := range 8 {
		programs(t, d, 1+i/4, i, api.OK)
	}
}

// P4.1 to P4.3: programming that is interrupted after every number of bytes, from none to all of them.
func TestCutProgram(t *testing.T) {
	for _, size := range []int{1, 5, 100} {
		g := small
		g.Size = size
		all := append(filled(size, 4), spared(4)...)
		for n := range len(all) + 1 {
			d := made(t, g)
			programs(t, d, 1, 3, api.OK)
			gives(t, "Cut", d.Cut(1, n), api.OK)
			programs(t, d, 1, 4, api.ErrPower)
			state := api.PageTorn
			if n == len(all) {
				state = api.PageProgrammed
			}
			isAt(t, d, 2, false)
			isPage(t, d, 1, 1, state)
			isBlock(t, d, 1, 2, 0)
			cannotRead(t, d, 1, 1, api.ErrPower)
			gives(t, "Restart", d.Restart(), api.OK)
			isAt(t, d, 2, true)
			isPage(t, d, 1, 1, state)
			contains(t, d, 1, 1, string(all[:n])+string(bytes.Repeat([]byte{0xFF}, len(all)-n)))
			holds(t, d, 1, 0, 3)
			isPage(t, d, 1, 2, api.PageErased)
			gives(t, "Program", d.Program(1, 1, all[:size], all[size:]), api.ErrOrder)
			programs(t, d, 1, 5, api.OK)
			holds(t, d, 1, 2, 5)
		}
	}
}

// P4.3: a page is torn by a cut of too few bytes even if those that are missing are FF.
func TestCutLastBytesSet(t *testing.T) {
	d := made(t, small)
	ones := bytes.Repeat([]byte{0xFF}, 69)
	gives(t, "Cut", d.Cut(0, 68), api.OK)
	gives(t, "Program", d.Program(0, 0, ones[:5], ones[5:]), api.ErrPower)
	isPage(t, d, 0, 0, api.PageTorn)
	gives(t, "Restart", d.Restart(), api.OK)
	contains(t, d, 0, 0, string(ones))
}

// P4.1 to P4.3: erasing that is interrupted leaves all pages of the block undefined, whatever they were and whatever the number of bytes is.
func TestCutErase(t *testing.T) {
	for n := range small.Pages + 1 {
		for _, size := range []int{0, 1, 5, 68, 69} {
			d := made(t, small)
			for i := range n {
				programs(t, d, 1, i, api.OK)
			}
			programs(t, d, 0, 8, api.OK)
			gives(t, "Cut", d.Cut(n+1, size), api.OK)
			gives(t, "Erase", d.Erase(1), api.ErrPower)
			isAt(t, d, n+2, false)
			isBlock(t, d, 1, small.Pages, 1)
			gives(t, "Restart", d.Restart(), api.OK)
			isBlock(t, d, 1, small.Pages, 1)
			for page := range small.Pages {
				isPage(t, d, 1, page, api.PageUndefined)
				cannotRead(t, d, 1, page, api.ErrUnreadable)
				gives(t, "Program", d.Program(1, page, filled(5, 1), spared(1)), api.ErrOrder)
			}
			holds(t, d, 0, 0, 8)
			isBlock(t, d, 0, 1, 0)
			isBlock(t, d, 2, 0, 0)
			gives(t, "Erase", d.Erase(1), api.OK)
			isBlock(t, d, 1, 0, 2)
		}
	}
}

// P4.1, P4.3: an operation that is a fault, too, is interrupted, and does not fail. The fault does not come later.
func TestCutAtFault(t *testing.T) {
	for _, n := range []int{0, 3, 69} {
		d := made(t, small, 0, 1)
		gives(t, "Cut", d.Cut(0, n), api.OK)
		programs(t, d, 0, 6, api.ErrPower)
		gives(t, "Restart", d.Restart(), api.OK)
		state := api.PageTorn
		if n == 69 {
			state = api.PageProgrammed
		}
		isPage(t, d, 0, 0, state)
		all := append(filled(5, 6), spared(6)...)
		contains(t, d, 0, 0, string(all[:n])+string(bytes.Repeat([]byte{0xFF}, 69-n)))
		gives(t, "Cut", d.Cut(1, n), api.OK)
		gives(t, "Erase", d.Erase(1), api.ErrPower)
		gives(t, "Restart", d.Restart(), api.OK)
		isPage(t, d, 1, 2, api.PageUndefined)
		programs(t, d, 0, 7, api.OK)
		gives(t, "Erase", d.Erase(1), api.OK)
	}
}

// P4.3: a fault that comes before the cut leaves the cut pending.
func TestCutAfterFault(t *testing.T) {
	d := made(t, small, 0)
	gives(t, "Cut", d.Cut(1, 0), api.OK)
	programs(t, d, 0, 1, api.ErrProgram)
	isAt(t, d, 1, true)
	programs(t, d, 0, 1, api.ErrPower)
	isAt(t, d, 2, false)
}

// P4.1 to P4.4: every method while the power is off; nothing is changed, and no cut is made pending.
func TestPowerOff(t *testing.T) {
	d := made(t, small, 1)
	programs(t, d, 0, 1, api.OK)
	programs(t, d, 0, 2, api.ErrProgram)
	gives(t, "Erase", d.Erase(2), api.OK)
	gives(t, "Cut", d.Cut(3, 3), api.OK)
	programs(t, d, 1, 3, api.ErrPower)
	before := d.Copy()
	unchanged(t, d, func() {
		for range 2 {
			programs(t, d, 0, 4, api.ErrPower)
			programs(t, d, 1, 4, api.ErrPower)
			for page := range small.Pages {
				cannotRead(t, d, 0, page, api.ErrPower)
				cannotRead(t, d, 1, page, api.ErrPower)
			}
			for block := range small.Blocks {
				gives(t, "Erase", d.Erase(block), api.ErrPower)
			}
			gives(t, "Cut", d.Cut(4, 0), api.ErrPower)
			gives(t, "Cut", d.Cut(5, 69), api.ErrPower)
			gives(t, "Cut", d.Cut(math.MaxInt, 1), api.ErrPower)
		}
	})
	isAt(t, d, 4, false)
	isBlock(t, d, 0, 2, 0)
	isBlock(t, d, 1, 1, 0)
	isBlock(t, d, 2, 0, 1)
	isPage(t, d, 0, 0, api.PageProgrammed)
	isPage(t, d, 0, 1, api.PageFailed)
	isPage(t, d, 0, 2, api.PageErased)
	isPage(t, d, 1, 0, api.PageTorn)
	isPage(t, d, 1, 4, api.PageNone)
	if d.Geometry() != small {
		t.Error(d.Geometry())
	}
	gives(t, "Restart", d.Restart(), api.OK)
	if got, want := whole(d), whole(before); got == want {
		t.Error("Restart did not switch the power on")
	}
	for i := range 4 {
		programs(t, d, 2, i, api.OK)
	}
}

// P4.3: Restart removes a pending cut, also if the power is on; without one it changes nothing.
func TestRestart(t *testing.T) {
	d := made(t, small, 2)
	unchanged(t, d, func() {
		gives(t, "Restart", d.Restart(), api.OK)
		gives(t, "Restart", d.Restart(), api.OK)
	})
	programs(t, d, 0, 1, api.OK)
	kept := whole(d)
	gives(t, "Cut", d.Cut(1, 3), api.OK)
	if whole(d) == kept {
		t.Error("the cut cannot be seen")
	}
	gives(t, "Restart", d.Restart(), api.OK)
	if got := whole(d); got != kept {
		t.Errorf("after Restart, the device is\n%s\nnot\n%s", got, kept)
	}
	programs(t, d, 0, 2, api.OK)
	gives(t, "Cut", d.Cut(2, 3), api.OK)
	gives(t, "Restart", d.Restart(), api.OK)
	programs(t, d, 0, 3, api.ErrProgram) // the fault has stayed
	isAt(t, d, 3, true)
	holds(t, d, 0, 0, 1)
	holds(t, d, 0, 1, 2)
}

// P4.3: after a cut has come it is not pending any more, and there can be further ones.
func TestManyCuts(t *testing.T) {
	d := made(t, api.Geometry{Blocks: 2, Pages: 2, Size: 1, Endurance: 100})
	for i := range 50 {
		gives(t, "Cut", d.Cut(2*i, 0), api.OK)
		gives(t, "Erase", d.Erase(1), api.ErrPower)
		gives(t, "Cut", d.Cut(2*i, 0), api.ErrArg)
		gives(t, "Restart", d.Restart(), api.OK)
		gives(t, "Cut", d.Cut(2*i, 0), api.ErrArg)
		gives(t, "Erase", d.Erase(1), api.OK)
	}
	isBlock(t, d, 1, 0, 100)
}
