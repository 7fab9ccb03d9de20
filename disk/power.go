package disk

import (
	"maps"
	"slices"

	"assize/api"
)

// Stop lets the power go behind so many writes.
func (d *Disk) Stop(writes int) api.Errno {
	switch {
	case !d.isMade():
		return api.ErrNil
	case writes < 0:
		return api.ErrArg
	case !d.Stopped():
		d.left = writes
	}
	return api.OK
}

// Stopped tells whether the power is gone.
func (d *Disk) Stopped() bool { return d.isMade() && d.left == 0 }

// Writes tells how many writes were done.
func (d *Disk) Writes() int {
	if !d.isMade() {
		return 0
	}
	return d.writes
}

// Crash brings the power back: of the loose bytes so many are kept, file by file.
func (d *Disk) Crash(torn []int) api.Errno {
	if !d.isMade() {
		return api.ErrNil
	}
	for _, name := range slices.Sorted(maps.Keys(d.files)) {
		if d.files[name].loose() == 0 {
			continue
		}
		kept := 0
		if len(torn) > 0 {
			kept, torn = torn[0], torn[1:]
		}
		d.tear(name, kept)
	}
	d.left = forever
	return api.OK
}

// tear leaves so many of a file's loose bytes, from their front, and takes the file away if nothing tells that it was there.
func (d *Disk) tear(name string, kept int) {
	f := d.files[name]
	f = f.cut(f.safe + min(max(kept, 0), f.loose())).safely()
	if len(f.bytes) == 0 && !f.lasts {
		delete(d.files, name)
		return
	}
	d.put(name, f)
}
