package disk

import (
	"slices"

	"tollgate/api"
)

// Plan says what a crash does to the writes that wait, by their places.
type Plan struct {
	Keep      []bool
	Torn, Cut int
}

// fuse lets a disk crash by a plan, when so many more writes and flushes were done; if it is not lit, there is none.
type fuse struct {
	lit  bool
	left int
	plan Plan
}

// Crash crashes it.
func (d *Disk) Crash(p Plan) api.Errno {
	if e := d.refuse(); e != api.OK {
		return e
	}
	if !p.mayBe() {
		return api.ErrArg
	}
	d.crash(p)
	return api.OK
}

// Fuse lets it crash later.
func (d *Disk) Fuse(k int, p Plan) api.Errno {
	if e := d.refuse(); e != api.OK {
		return e
	}
	if !p.mayBe() || k < 0 {
		return api.ErrArg
	}
	p.Keep = slices.Clone(p.Keep)
	d.fuse = fuse{lit: true, left: k, plan: p}
	return api.OK
}

// mayBe says whether there can be such a plan.
func (p Plan) mayBe() bool {
	return 0 <= p.Cut && p.Cut <= api.SectorSize
}

// step counts a write or a flush as done; it crashes the disk instead, if its fuse has burnt down.
func (d *Disk) step() api.Errno {
	if d.fuse.lit {
		if d.fuse.left == 0 {
			d.crash(d.fuse.plan)
			return api.ErrDead
		}
		d.fuse.left--
	}
	d.done++
	return api.OK
}

// crash lets last what the plan keeps, and ends the disk.
func (d *Disk) crash(p Plan) {
	kept := func(place int) int { // how many bytes last of the write at that place
		switch {
		case place == p.Torn:
			return p.Cut
		case place < len(p.Keep) && p.Keep[place]:
			return api.SectorSize
		}
		return 0
	}
	for place, w := range d.waits {
		copy(d.lasts[w.at][:kept(place)], w.says[:])
	}
	d.forget()
	d.dead, d.fuse = true, fuse{}
}
