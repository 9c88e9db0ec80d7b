package disk

import "lighter/api"

// The fates of a sector in the cache, when the power fails.
const (
	lost     = iota // it is as it lasted
	kept            // it is as it was written
	headKept        // it is torn: just its first half is as it was written
	tailKept        // it is torn: just its second half is
	fateEnd         // how many fates there are
)

const half = api.Sector / 2

// On: is the power on?
func (d *Disk) On() bool { return d != nil && d.on }

// Start: the power is on again.
func (d *Disk) Start() {
	if d != nil {
		d.on = true
	}
}

// Crash: the power fails: of what was written since the last Sync each sector keeps it, loses it, or is torn.
func (d *Disk) Crash(fates []int) {
	if !d.On() {
		return
	}
	for k, i := range d.Dirty() {
		if k < len(fates) {
			settle(d.sector(i), d.cache[i].text, fates[k])
		}
	}
	clear(d.cache)
	d.fuse = noFuse
	d.on = false
}

// settle what lasts of a sector that was written, by its fate.
func settle(lasts []byte, written string, fate int) {
	switch (fate%fateEnd + fateEnd) % fateEnd {
	case lost:
	case kept:
		copy(lasts, written)
	case headKept:
		copy(lasts[:half], written[:half])
	case tailKept:
		copy(lasts[half:], written[half:])
	}
}

// Fuse: the power fails at the write that is so many ahead.
func (d *Disk) Fuse(n int) {
	if d != nil {
		d.fuse = max(n, noFuse)
	}
}

// burns: does the power fail just ahead of a Write or a Sync that could be?
func (d *Disk) burns() bool {
	if d.fuse != 0 {
		return false
	}
	d.Crash(nil)
	return true
}
