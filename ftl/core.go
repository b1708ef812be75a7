package ftl

import (
	"maps"
	"slices"

	"capsule/api"
	"capsule/appender"
	"capsule/flash"
	"capsule/recovery"
)

// core is the state of a layer.
type core struct {
	api.FTLConfig
	path     *appender.Appender // through which the device is written
	old      map[int]bool       // by block: it was not erased when the layer was made or restarted, so what has failed in it does not count
	waiting  []group            // the write cache, with the oldest group first
	down     bool
	readOnly bool
}

// found returns what is found on a device, which has to fit.
func found(d *flash.Device, sectors int) api.Found {
	f, e := recovery.Scan(d, sectors)
	require(e == api.OK, e)
	_, e = appender.New(d, sectors, f)
	require(e == api.OK, api.ErrFormat)
	return f
}

// start returns the core of a layer that starts with what was found, which fits.
func start(d *flash.Device, c api.FTLConfig, f api.Found) *core {
	path, _ := appender.New(d, c.Sectors, f)
	old := map[int]bool{}
	for _, block := range f.Dirty {
		old[block] = true
	}
	return &core{FTLConfig: c, path: path, old: old}
}

// restarted restarts the device, and returns the core of a layer that starts with what is found there. It looks on a copy first, since nothing may be changed if that does not fit.
func (c *core) restarted() *core {
	d := c.path.Device()
	trial := d.Copy()
	trial.Restart()
	f := found(trial, c.Sectors)
	d.Restart()
	return start(d, c.FTLConfig, f)
}

// copied returns a core that shares no memory with this one, except for groups, which do not change.
func (c *core) copied() *core {
	d := *c
	d.path = c.path.Copy()
	d.old = maps.Clone(c.old)
	d.waiting = slices.Clone(c.waiting)
	return &d
}

// settle keeps what follows from the error of a call.
func (c *core) settle(e api.Errno) {
	switch e {
	case api.ErrPower:
		c.down, c.waiting = true, nil
	case api.ErrReadOnly:
		c.readOnly = true
	}
}

// requireGroup raises the error of a group that cannot be written.
func (c *core) requireGroup(l ...api.SectorWrite) {
	require(within(len(l), 1, c.MaxGroup), api.ErrArg)
	seen := map[int]bool{}
	for _, w := range l {
		require(!seen[w.Sector] && len(w.Data) == c.geometry().Size, api.ErrArg)
		seen[w.Sector] = true
	}
	for _, w := range l {
		require(within(w.Sector, 0, c.Sectors-1), api.ErrRange)
	}
}

func (c *core) geometry() api.Geometry {
	return c.path.Device().Geometry()
}

func (c *core) requirePower() {
	require(!c.down && c.path.Device().Powered(), api.ErrPower)
}

// requireWritable raises the error of a layer that accepts no changes.
func (c *core) requireWritable() {
	c.requirePower()
	require(!c.readOnly, api.ErrReadOnly)
	c.requireSpare()
}

// requireSpare raises the error of a layer with too many bad blocks.
func (c *core) requireSpare() {
	require(c.path.Bad() <= c.Spare, api.ErrReadOnly)
}

// requireDone raises the error that a call of the appender leads to. Whatever has kept it from writing, if not the power: the blocks do not suffice for it.
func requireDone(e api.Errno) {
	require(e != api.ErrPower, e)
	require(e == api.OK, api.ErrReadOnly)
}

// accept makes a group durable, or lets it wait.
func (c *core) accept(g group) {
	if c.Cache == 0 {
		c.commit(g)
		return
	}
	if len(c.waiting) == c.Cache {
		c.commitOldest()
	}
	c.waiting = append(c.waiting, g)
}

// commitOldest makes the group durable that has waited longest.
func (c *core) commitOldest() {
	n := len(c.waiting)
	c.commit(c.waiting[0])
	c.waiting = c.waiting[1:n:n]
}

// commit makes a group durable.
func (c *core) commit(g group) {
	c.makeRoom()
	requireDone(c.path.Append(g.changes()...))
}

// contents returns the contents of a sector, which are those in the last group that waits and changes it, if there is one.
func (c *core) contents(sector int) []byte {
	data, waits := last(c.waiting, func(g group) ([]byte, bool) { return g.at(sector) })
	if waits {
		blank := make([]byte, c.geometry().Size-len(data)) // all of a trimmed sector
		return slices.Concat(data, blank)
	}
	data, e := c.path.Read(sector)
	require(e == api.OK, e)
	return data
}
