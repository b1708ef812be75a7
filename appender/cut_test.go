package appender_test

import (
	"bytes"
	"fmt"
	"slices"
	"testing"

	"capsule/api"
	"capsule/appender"
)

// fails fails the test unless all methods of an appender that is down return ErrPower, behind the errors that come first, and change nothing.
func fails(t *testing.T, a *appender.Appender, sectors int) {
	t.Helper()
	blocks, size := a.Device().Geometry().Blocks, a.Device().Geometry().Size
	text := look(t, a)
	for range 2 {
		for sector := range sectors {
			cannotRead(t, a, sector, api.ErrPower)
			gives(t, "Append", a.Append(api.SectorWrite{Sector: sector, Data: filled(size, 1)}), api.ErrPower)
			gives(t, "Append of a trimmed sector", a.Append(trim(sector)), api.ErrPower)
		}
		for block := range blocks {
			gives(t, fmt.Sprint("Move ", block), a.Move(block), api.ErrPower)
		}
		gives(t, "Checkpoint", a.Checkpoint(), api.ErrPower)
		gives(t, "Append of nothing", a.Append(), api.ErrArg)
		gives(t, "Append of a sector that does not exist, twice", a.Append(trim(-1), trim(-1)), api.ErrArg)
		gives(t, "Append of wrong data", a.Append(api.SectorWrite{Sector: sectors, Data: filled(size+1, 1)}), api.ErrArg)
		gives(t, "Append of a sector that does not exist", a.Append(trim(sectors)), api.ErrRange)
		gives(t, "Move of a block that does not exist", a.Move(blocks), api.ErrRange)
		gives(t, "Move of a block that does not exist", a.Move(-1), api.ErrRange)
		cannotRead(t, a, sectors, api.ErrRange)
		cannotRead(t, a, -1, api.ErrRange)
	}
	if after := look(t, a); after != text {
		t.Errorf("%s, not %s", after, text)
	}
}

// interrupted makes the calls of the script up to the one that the cut interrupts, and then the others from that one on with the appender that starts with what is found.
func interrupted(t *testing.T, operation, size int, faults ...int) {
	t.Helper()
	p := pairOn(t, device(t, roomy, faults...), 8, api.Found{Next: 1})
	p.cut(t, operation, size)
	cuts := 0
	for i := 0; i < len(script); i++ {
		e, after := script[i](t, p)
		if e == api.OK {
			continue
		}
		gives(t, fmt.Sprint("call ", i), e, api.ErrPower)
		fails(t, p.a, 8)
		down := p.a
		p = p.restart(t, after)
		cannotRead(t, down, 0, api.ErrPower)
		gives(t, "Append of an appender that is down, on a device that is not", down.Append(put(1, 1)), api.ErrPower)
		gives(t, "Checkpoint of an appender that is down, on a device that is not", down.Checkpoint(), api.ErrPower)
		gives(t, "Move of an appender that is down, on a device that is not", down.Move(0), api.ErrPower)
		cuts++
		i--
	}
	if cuts != 1 {
		t.Errorf("%d cuts at operation %d", cuts, operation)
	}
	for sector, seed := range []int{0, 7, 9, 10, 6, 0, 0, 12} {
		want := make([]byte, roomy.Size)
		if seed > 0 {
			want = filled(roomy.Size, seed)
		}
		if b, e := p.a.Read(sector); e != api.OK || !bytes.Equal(b, want) {
			t.Errorf("cut at operation %d after %d bytes: sector %d is %x, %v, not %x", operation, size, sector, b, e, want)
		}
	}
}

// P10.1 to P10.5: the power is cut at each operation of the script, after several numbers of bytes: the appender is down; another one that starts with what is found has the contents from before or after the call.
func TestEveryCut(t *testing.T) {
	operations := runs(t, roomy)
	all := roomy.Size + api.SpareSize
	for operation := range operations {
		for _, size := range []int{0, 1, roomy.Size, all - 4, all - 1, all} {
			interrupted(t, operation, size)
		}
	}
}

// P10.1 to P10.5: the power is cut at each operation, after an operation before it, or the next one, has failed.
func TestCutsAndFaults(t *testing.T) {
	operations := runs(t, roomy)
	for operation := range operations {
		for _, fault := range []int{operation - 3, operation - 1, operation, operation + 1} {
			if fault >= 0 {
				interrupted(t, operation, (7*operation)%(roomy.Size+api.SpareSize+1), fault)
			}
		}
	}
}

// P10.1: a group that is cut by the power while its last page is programmed is there if all bytes were, and is not there otherwise; in either case the appender is down and shows the state before.
func TestCutLastPage(t *testing.T) {
	for size := range small.Size + api.SpareSize + 1 {
		a := made(t)
		appends(t, a, []api.SectorWrite{put(1, 1)})
		gives(t, "Cut", a.Device().Cut(3, size), api.OK)
		gives(t, "Append", a.Append(put(1, 2)), api.ErrPower)
		assigns(t, a, entry{Sector: 1, Page: 0})
		fails(t, a, 8)
		gives(t, "Restart", a.Device().Restart(), api.OK)
		b := started(t, a.Device(), 8, scan(t, a.Device(), 8))
		if size == small.Size+api.SpareSize {
			contains(t, b, 0, 2)
		} else {
			contains(t, b, 0, 1)
		}
	}
}

// P10.1, P10.3: the power of the device is off, but no call has shown it yet: it is down as soon as a call of the device has.
func TestPowerFoundOff(t *testing.T) {
	for _, call := range []func(*appender.Appender) api.Errno{
		func(a *appender.Appender) api.Errno { return a.Append(put(1, 1)) },
		func(a *appender.Appender) api.Errno { return a.Append(trim(2)) },
		func(a *appender.Appender) api.Errno { return a.Checkpoint() },
		func(a *appender.Appender) api.Errno { _, e := a.Read(2); return e },
	} {
		a := made(t)
		appends(t, a, []api.SectorWrite{put(2, 1)})
		gives(t, "Cut", a.Device().Cut(2, 0), api.OK)
		gives(t, "Erase", a.Device().Erase(5), api.ErrPower)
		holds(t, a, 1, make([]byte, small.Size))
		gives(t, "Append of a sector that is not mapped", a.Append(trim(1)), api.OK)
		gives(t, "the call", call(a), api.ErrPower)
		fails(t, a, 8)
		gives(t, "Restart", a.Device().Restart(), api.OK)
		fails(t, a, 8)
		assigns(t, a, entry{Sector: 2, Page: 0})
	}
}

// P10.2, P10.5: the power is cut while a block that was moved is erased, or the journal from before a checkpoint: the block is undefined, and the contents are kept.
func TestCutErase(t *testing.T) {
	for _, c := range []struct {
		operation, block int
		call             func(*appender.Appender) api.Errno
		journal, dirty   []int
	}{
		{10, 0, func(a *appender.Appender) api.Errno { return a.Move(0) }, []int{1}, []int{0, 2}},
		{8, 1, func(a *appender.Appender) api.Errno { return a.Checkpoint() }, []int{3}, []int{0, 1, 2}},
	} {
		a := filledBlocks(t)
		d := a.Device()
		gives(t, "Cut", d.Cut(c.operation, 9), api.OK)
		gives(t, "the call", c.call(a), api.ErrPower)
		fails(t, a, 8)
		entries := a.Entries()
		gives(t, "Restart", d.Restart(), api.OK)
		if s := d.State(c.block, 0); s != api.PageUndefined {
			t.Errorf("block %d: %v", c.block, s)
		}
		f := scan(t, d, 8)
		if !slices.Equal(f.Journal, c.journal) || !slices.Equal(f.Dirty, c.dirty) || !slices.Equal(f.Entries, entries) {
			t.Errorf("%v, not %v, %v, %v", f, c.journal, c.dirty, entries)
		}
		b := started(t, d, 8, f)
		contains(t, b, 5, 4, 0, 2, 0, 0, 0, 0)
		gives(t, "Move", b.Move(c.block), api.OK)
		isBlock(t, b, c.block)
		contains(t, b, 5, 4, 0, 2, 0, 0, 0, 0)
	}
}
