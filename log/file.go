package log

import (
	"assize/api"
	"assize/disk"
	"assize/frame"
)

// file is a log's file. Behind the first refusal, which it remembers, nothing more is written to it.
type file struct {
	disk    *disk.Disk
	name    string
	refused api.Errno
}

// open tells the file's records, and how many bytes their frames have; it has no others then.
func (f *file) open() ([][]byte, int) {
	// What is told must be there behind a crash, too.
	if f.disk.Loose(f.name) > 0 {
		f.sync()
	}
	// A file that is not there has no bytes, either.
	b, _ := f.disk.Read(f.name)
	records, size, how := frame.Scan(b)
	switch how {
	case api.Bad:
		f.remember(api.ErrBroken)
	case api.Torn:
		f.cut(size)
	}
	return records, size
}

// append lays bytes behind the file's.
func (f *file) append(b []byte) {
	if f.refused == api.OK {
		f.remember(f.disk.Append(f.name, b))
	}
}

// sync makes the file's bytes safe.
func (f *file) sync() {
	if f.refused == api.OK {
		f.remember(f.disk.Sync(f.name))
	}
}

// cut leaves so many of the file's bytes.
func (f *file) cut(size int) {
	if f.refused == api.OK {
		f.remember(f.disk.Cut(f.name, size))
	}
}

// remember keeps the first refusal.
func (f *file) remember(err api.Errno) {
	if f.refused == api.OK {
		f.refused = err
	}
}

// told tells the first refusal. A disk that is full is as it was, so that this one is told once and forgotten.
func (f *file) told() api.Errno {
	err := f.refused
	if err == api.ErrFull {
		f.refused = api.OK
	}
	return err
}
