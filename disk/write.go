package disk

import "assize/api"

// Append lays bytes behind a file's.
func (d *Disk) Append(name string, b []byte) api.Errno {
	switch {
	case !d.isMade():
		return api.ErrNil
	case !isName(name):
		return api.ErrArg
	case !d.hasRoom(name, len(b)):
		return api.ErrFull
	}
	return d.write(func() {
		f := d.files[name]
		f.bytes = append(f.bytes, b...)
		d.put(name, f)
	})
}

// Cut leaves the first so many bytes of a file.
func (d *Disk) Cut(name string, size int) api.Errno {
	if !d.isMade() {
		return api.ErrNil
	}
	f, there := d.files[name]
	switch {
	case !there:
		return api.ErrMissing
	case size < 0 || size > len(f.bytes):
		return api.ErrArg
	case f.loose() > 0:
		return api.ErrState
	}
	return d.write(func() {
		f = f.cut(size)
		f.lasts = true
		d.put(name, f)
	})
}

// Sync makes a file's bytes safe.
func (d *Disk) Sync(name string) api.Errno {
	if err := d.lacks(name); err != api.OK {
		return err
	}
	return d.write(func() {
		f := d.files[name].safely()
		f.lasts = true
		d.put(name, f)
	})
}

// Rename gives a file another name, whatever was there by that one.
func (d *Disk) Rename(from, to string) api.Errno {
	if !d.isMade() {
		return api.ErrNil
	}
	f, there := d.files[from]
	switch {
	case !isName(to):
		return api.ErrArg
	case !there:
		return api.ErrMissing
	case f.loose() > 0:
		return api.ErrState
	}
	return d.write(func() {
		if from == to {
			return
		}
		f.lasts = true
		d.put(to, f)
		delete(d.files, from)
	})
}

// Remove takes a file away.
func (d *Disk) Remove(name string) api.Errno {
	if err := d.lacks(name); err != api.OK {
		return err
	}
	return d.write(func() { delete(d.files, name) })
}

// hasRoom tells whether so many bytes may stand behind a file's, or in a file that is made for them.
func (d *Disk) hasRoom(name string, n int) bool {
	_, there := d.files[name]
	return (there || len(d.files) < api.MaxFiles) && n <= d.size-d.Used()
}

// write does what is asked for, if there is power.
func (d *Disk) write(do func()) api.Errno {
	if d.Stopped() {
		return api.ErrDisk
	}
	do()
	d.writes++
	if d.left != forever {
		d.left--
	}
	return api.OK
}
