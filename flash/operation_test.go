package flash_test

import (
	"bytes"
	"testing"

	"capsule/api"
	"capsule/flash"
)

// P4.1 to P4.4: the examples of the chapter.
func TestExamples(t *testing.T) {
	d := made(t, api.Geometry{Blocks: 2, Pages: 2, Size: 2, Endurance: 2}, 2)
	s := bytes.Repeat([]byte{7}, 64)
	gives(t, "Program(0, 0)", d.Program(0, 0, []byte("ab"), s), api.OK)
	gives(t, "Program(0, 0)", d.Program(0, 0, []byte("cd"), s), api.ErrOrder)
	gives(t, "Program(1, 1)", d.Program(1, 1, []byte("cd"), s), api.ErrOrder)
	contains(t, d, 0, 0, "ab"+string(s))
	cannotRead(t, d, 0, 1, api.ErrErased)

	gives(t, "Cut(1, 1)", d.Cut(1, 1), api.OK)
	gives(t, "Program(0, 1)", d.Program(0, 1, []byte("cd"), s), api.ErrPower)
	cannotRead(t, d, 0, 0, api.ErrPower)
	gives(t, "Restart", d.Restart(), api.OK)
	contains(t, d, 0, 1, "c\xFF"+string(bytes.Repeat([]byte{0xFF}, 64)))
	isPage(t, d, 0, 1, api.PageTorn)

	gives(t, "Erase(0)", d.Erase(0), api.ErrErase)
	isPage(t, d, 0, 0, api.PageUndefined)
	cannotRead(t, d, 0, 0, api.ErrUnreadable)
	gives(t, "Erase(0)", d.Erase(0), api.OK)
	isBlock(t, d, 0, 0, 2)
	gives(t, "Erase(0)", d.Erase(0), api.ErrWorn)
	isAt(t, d, 4, true)
}

// contains fails the test unless a page can be read and contains these data and spare bytes.
func contains(t *testing.T, d *flash.Device, block, page int, want string) {
	t.Helper()
	data, spare, e := d.Read(block, page)
	if e != api.OK || len(data) != d.Geometry().Size || len(spare) != api.SpareSize || string(data)+string(spare) != want {
		t.Errorf("Read(%d, %d): %x, %x, %v, not %x", block, page, data, spare, e, want)
	}
}

// P4.1, P4.2: every page of every block is programmed and read, with the smallest and the largest pages.
func TestProgramAndRead(t *testing.T) {
	for _, size := range []int{1, 5, 4160, 8192} {
		g := api.Geometry{Blocks: 4, Pages: 3, Size: size, Endurance: 1}
		d := made(t, g)
		for page := range g.Pages {
			for _, block := range []int{2, 0, 3, 1} {
				isBlock(t, d, block, page, 0)
				programs(t, d, block, block*g.Pages+page, api.OK)
			}
		}
		isAt(t, d, 12, true)
		for i := range 12 {
			holds(t, d, i/g.Pages, i%g.Pages, i)
		}
	}
}

// P4.1: bytes that look like those of an erased page are programmed like any others.
func TestProgramAllOnes(t *testing.T) {
	d := made(t, small)
	ones := bytes.Repeat([]byte{0xFF}, small.Size+api.SpareSize)
	gives(t, "Program", d.Program(0, 0, ones[:small.Size], ones[small.Size:]), api.OK)
	isPage(t, d, 0, 0, api.PageProgrammed)
	isBlock(t, d, 0, 1, 0)
	contains(t, d, 0, 0, string(ones))
}

// P4.1, P4.2: blocks and pages that do not exist.
func TestPlaces(t *testing.T) {
	d := made(t, small)
	programs(t, d, 0, 1, api.OK)
	unchanged(t, d, func() {
		for _, n := range []int{-1, -2, -3, 3, 4, 6} {
			gives(t, "Program", d.Program(n, 0, filled(5, 1), spared(1)), api.ErrArg)
			cannotRead(t, d, n, 0, api.ErrArg)
			gives(t, "Erase", d.Erase(n), api.ErrArg)
		}
		for _, n := range []int{-1, -4, 4, 5, 8} {
			gives(t, "Program", d.Program(1, n, filled(5, 1), spared(1)), api.ErrArg)
			cannotRead(t, d, 0, n, api.ErrArg)
		}
	})
}

// P4.1: data and spare bytes of every other length than the right one.
func TestLengths(t *testing.T) {
	d := made(t, small)
	programs(t, d, 0, 1, api.OK)
	unchanged(t, d, func() {
		for n := range 2 * api.SpareSize {
			if n != small.Size {
				gives(t, "Program", d.Program(0, 1, filled(n, 1), spared(1)), api.ErrArg)
			}
			if n != api.SpareSize {
				gives(t, "Program", d.Program(0, 1, filled(5, 1), filled(n, 1)), api.ErrArg)
			}
			if n != small.Size { // the sum of both is right
				gives(t, "Program", d.Program(0, 1, filled(n, 1), filled(max(69-n, 0), 1)), api.ErrArg)
			}
		}
		gives(t, "Program", d.Program(0, 1, nil, spared(1)), api.ErrArg)
		gives(t, "Program", d.Program(0, 1, filled(5, 1), nil), api.ErrArg)
		gives(t, "Program", d.Program(0, 1, nil, nil), api.ErrArg)
		gives(t, "Program", d.Program(0, 1, spared(1), filled(5, 1)), api.ErrArg)
	})
}

// P4.1: only the next page of a block can be programmed.
func TestOrder(t *testing.T) {
	d := made(t, small)
	for next := range small.Pages + 1 {
		isBlock(t, d, 1, next, 0)
		unchanged(t, d, func() {
			for page := range small.Pages {
				if page != next {
					gives(t, "Program", d.Program(1, page, filled(5, 1), spared(1)), api.ErrOrder)
				}
			}
		})
		if next < small.Pages {
			gives(t, "Program", d.Program(1, next, filled(5, next), spared(next)), api.OK)
		}
	}
	for page := range small.Pages {
		holds(t, d, 1, page, page)
	}
	isAt(t, d, small.Pages, true)
}

// P4.1: after an erase a block is programmed again from its first page on, whether it was full or not.
func TestProgramAfterErase(t *testing.T) {
	for n := range small.Pages + 1 {
		d := made(t, small)
		for i := range n {
			programs(t, d, 0, i, api.OK)
		}
		programs(t, d, 1, 9, api.OK)
		gives(t, "Erase", d.Erase(0), api.OK)
		isBlock(t, d, 0, 0, 1)
		for page := range small.Pages {
			isPage(t, d, 0, page, api.PageErased)
			cannotRead(t, d, 0, page, api.ErrErased)
		}
		gives(t, "Program", d.Program(0, 1, filled(5, 1), spared(1)), api.ErrOrder)
		for i := range small.Pages {
			programs(t, d, 0, 50+i, api.OK)
		}
		for i := range small.Pages {
			holds(t, d, 0, i, 50+i)
		}
		holds(t, d, 1, 0, 9)
		isBlock(t, d, 1, 1, 0)
	}
}

// P4.1: a block is erased as often as Endurance says, whatever these operations led to; it can still be programmed then.
func TestEndurance(t *testing.T) {
	for _, endurance := range []int{1, 2, 3, 100} {
		g := small
		g.Endurance = endurance
		d := made(t, g)
		for i := range endurance {
			isBlock(t, d, 1, 0, i)
			gives(t, "Erase", d.Erase(1), api.OK)
		}
		unchanged(t, d, func() {
			gives(t, "Erase", d.Erase(1), api.ErrWorn)
			gives(t, "Erase", d.Erase(1), api.ErrWorn)
		})
		isAt(t, d, endurance, true)
		isBlock(t, d, 1, 0, endurance)
		for i := range g.Pages {
			programs(t, d, 1, i, api.OK)
		}
		unchanged(t, d, func() { gives(t, "Erase", d.Erase(1), api.ErrWorn) })
		holds(t, d, 1, 2, 2)
		gives(t, "Erase", d.Erase(0), api.OK)
	}
}

// P4.1: erases that fail or are interrupted wear a block, too.
func TestWornByFailures(t *testing.T) {
	d := made(t, small, 0)
	gives(t, "Erase", d.Erase(0), api.ErrErase)
	gives(t, "Cut", d.Cut(1, 0), api.OK)
	gives(t, "Erase", d.Erase(0), api.ErrPower)
	gives(t, "Restart", d.Restart(), api.OK)
	isBlock(t, d, 0, 4, 2)
	gives(t, "Erase", d.Erase(0), api.OK)
	isBlock(t, d, 0, 0, 3)
	gives(t, "Erase", d.Erase(0), api.ErrWorn)
}

// P4.1, P4.2: a page whose programming fails cannot be read, and the block goes on behind it.
func TestProgramFails(t *testing.T) {
	for fault := range small.Pages {
		d := made(t, small, fault)
		for i := range small.Pages {
			if i != fault {
				programs(t, d, 0, i, api.OK)
				continue
			}
			programs(t, d, 0, i, api.ErrProgram)
			isPage(t, d, 0, i, api.PageFailed)
			isBlock(t, d, 0, i+1, 0)
			cannotRead(t, d, 0, i, api.ErrUnreadable)
			gives(t, "Program", d.Program(0, i, filled(5, 1), spared(1)), api.ErrOrder)
		}
		for i := range small.Pages {
			if i != fault {
				holds(t, d, 0, i, i)
			}
		}
		isAt(t, d, small.Pages, true)
		gives(t, "Erase", d.Erase(0), api.OK)
		isPage(t, d, 0, fault, api.PageErased)
		programs(t, d, 0, 7, api.OK)
	}
}

// P4.1, P4.2: erasing that fails leaves all pages of the block undefined, whatever they were, until it succeeds.
func TestEraseFails(t *testing.T) {
	for n := range small.Pages + 1 {
		d := made(t, small, n+1, n+2)
		for i := range n {
			programs(t, d, 1, i, api.OK)
		}
		programs(t, d, 2, 9, api.OK)
		for i := range 2 {
			gives(t, "Erase", d.Erase(1), api.ErrErase)
			isBlock(t, d, 1, small.Pages, i+1)
			for page := range small.Pages {
				isPage(t, d, 1, page, api.PageUndefined)
				cannotRead(t, d, 1, page, api.ErrUnreadable)
				gives(t, "Program", d.Program(1, page, filled(5, 1), spared(1)), api.ErrOrder)
			}
		}
		isAt(t, d, n+3, true)
		holds(t, d, 2, 0, 9)
		isBlock(t, d, 2, 1, 0)
		gives(t, "Erase", d.Erase(1), api.OK)
		isBlock(t, d, 1, 0, 3)
		programs(t, d, 1, 5, api.OK)
		holds(t, d, 1, 0, 5)
	}
}

// P4.1, P4.4: only the execution of Program and Erase is an operation, whatever it leads to; no other call moves a fault to another operation.
func TestOperations(t *testing.T) {
	d := made(t, small, 1, 2, 4)
	programs(t, d, 0, 1, api.OK)
	idle := func(operations int) {
		t.Helper()
		d.Program(0, 3, filled(5, 1), spared(1))
		d.Program(0, 9, filled(5, 1), spared(1))
		d.Program(0, 1, nil, nil)
		d.Erase(9)
		d.Read(0, 0)
		d.Read(1, 1)
		d.Cut(0, 0)
		d.Restart()
		d.Copy().Erase(1)
		isAt(t, d, operations, true)
	}
	idle(1)
	programs(t, d, 0, 2, api.ErrProgram)
	idle(2)
	gives(t, "Erase", d.Erase(1), api.ErrErase)
	idle(3)
	gives(t, "Erase", d.Erase(1), api.OK)
	idle(4)
	gives(t, "Erase", d.Erase(1), api.ErrErase)
	gives(t, "Erase", d.Erase(1), api.ErrWorn)
	idle(5)
	gives(t, "Cut", d.Cut(5, 3), api.OK)
	programs(t, d, 2, 1, api.ErrPower)
	isAt(t, d, 6, false)
	gives(t, "Erase", d.Erase(2), api.ErrPower)
	gives(t, "Program", d.Program(2, 1, filled(5, 1), spared(1)), api.ErrPower)
	idle(6)
	programs(t, d, 2, 1, api.OK)
	isAt(t, d, 7, true)
}

// P4.1 to P4.3: the errors of a call in their order. Calls with two faults return the first one, and change nothing.
func TestErrorOrder(t *testing.T) {
	d := made(t, small, 5)
	programs(t, d, 0, 1, api.OK)
	for range 3 {
		gives(t, "Erase", d.Erase(2), api.OK)
	}
	unchanged(t, d, func() {
		gives(t, "no page and no data", d.Program(0, 4, nil, nil), api.ErrArg)
		gives(t, "not the next page, no data", d.Program(0, 0, nil, spared(1)), api.ErrArg)
		gives(t, "not the next page, no spare bytes", d.Program(0, 2, filled(5, 1), nil), api.ErrArg)
	})
	gives(t, "Cut", d.Cut(4, 0), api.OK)
	gives(t, "Erase", d.Erase(1), api.ErrPower)
	unchanged(t, d, func() {
		gives(t, "off, no block", d.Program(3, 0, filled(5, 1), spared(1)), api.ErrArg)
		gives(t, "off, no page", d.Program(0, 4, filled(5, 1), spared(1)), api.ErrArg)
		gives(t, "off, no data", d.Program(0, 1, nil, spared(1)), api.ErrArg)
		gives(t, "off, no spare bytes", d.Program(0, 1, filled(5, 1), nil), api.ErrArg)
		gives(t, "off, not the next page", d.Program(0, 2, filled(5, 1), spared(1)), api.ErrPower)
		gives(t, "off, no block", d.Erase(3), api.ErrArg)
		gives(t, "off, worn", d.Erase(2), api.ErrPower)
		gives(t, "off, executed", d.Cut(4, 0), api.ErrArg)
		gives(t, "off, too many bytes", d.Cut(5, 70), api.ErrArg)
		cannotRead(t, d, 3, 0, api.ErrArg)
		cannotRead(t, d, 0, 4, api.ErrArg)
		cannotRead(t, d, 0, 1, api.ErrPower) // erased
		cannotRead(t, d, 1, 0, api.ErrPower) // undefined
	})
	gives(t, "Restart", d.Restart(), api.OK)
	unchanged(t, d, func() {
		gives(t, "a fault, but not the next page", d.Program(0, 2, filled(5, 1), spared(1)), api.ErrOrder)
		gives(t, "a fault, but worn", d.Erase(2), api.ErrWorn)
	})
	programs(t, d, 0, 1, api.ErrProgram)
}

// P4.1: Program retains none of its arguments, and does not change them.
func TestProgramArguments(t *testing.T) {
	d := made(t, small)
	all := append(filled(5, 3), spared(3)...)
	before := bytes.Clone(all)
	gives(t, "Program", d.Program(0, 0, all[:5], all[5:]), api.OK)
	gives(t, "Cut", d.Cut(1, 2), api.OK)
	gives(t, "Program", d.Program(0, 1, all[:5], all[5:]), api.ErrPower)
	gives(t, "Restart", d.Restart(), api.OK)
	if !bytes.Equal(all, before) {
		t.Errorf("the arguments are %x, not %x", all, before)
	}
	torn := look(d)
	clear(all)
	holds(t, d, 0, 0, 3)
	if got := look(d); got != torn {
		t.Errorf("the device was\n%s\nand is\n%s", torn, got)
	}
}

// P4.2: the results of Read share no memory with the device, with those of another call, or with each other.
func TestReadResults(t *testing.T) {
	d := made(t, small)
	programs(t, d, 0, 1, api.OK)
	programs(t, d, 0, 2, api.OK)
	data, spare, _ := d.Read(0, 0)
	again, spareAgain, _ := d.Read(0, 0)
	_ = append(data, filled(100, 9)...)
	_ = append(spare, filled(100, 9)...)
	if !bytes.Equal(spare, spared(1)) {
		t.Errorf("the spare bytes are %x", spare)
	}
	clear(data[:cap(data)])
	if !bytes.Equal(spare, spared(1)) {
		t.Errorf("the spare bytes are %x", spare)
	}
	clear(spare[:cap(spare)])
	if !bytes.Equal(again, filled(5, 1)) || !bytes.Equal(spareAgain, spared(1)) {
		t.Errorf("the other results are %x and %x", again, spareAgain)
	}
	holds(t, d, 0, 0, 1)
	holds(t, d, 0, 1, 2)
	holds(t, d.Copy(), 0, 0, 1)
}

// P4.2: Read changes nothing, whatever it reads.
func TestReadChangesNothing(t *testing.T) {
	d := made(t, small, 1)
	programs(t, d, 0, 1, api.OK)
	programs(t, d, 0, 2, api.ErrProgram)
	gives(t, "Cut", d.Cut(3, 1), api.OK)
	unchanged(t, d, func() {
		for range 3 {
			holds(t, d, 0, 0, 1)
			cannotRead(t, d, 0, 1, api.ErrUnreadable)
			cannotRead(t, d, 0, 2, api.ErrErased)
		}
	})
}
