package log_test

import (
	"encoding/binary"
	"hash/crc32"

	"assize/api"
	"assize/disk"
)

// secondFrame tells a record's frame, with the library's check.
func secondFrame(record []byte) []byte {
	f := binary.BigEndian.AppendUint32(nil, uint32(len(record)))
	f = binary.BigEndian.AppendUint32(f, ^uint32(len(record)))
	f = append(f, record...)
	return binary.BigEndian.AppendUint32(f, crc32.Checksum(record, crc32.MakeTable(crc32.Castagnoli)))
}

// frames tells records' frames, one behind the other.
func frames(records ...[]byte) []byte {
	var b []byte
	for _, record := range records {
		b = append(b, secondFrame(record)...)
	}
	return b
}

// secondScan tells the records whose frames stand at the front of bytes, and how what is behind them is.
func secondScan(b []byte) ([][]byte, int) {
	var records [][]byte
	for len(b) >= 8 {
		length := binary.BigEndian.Uint32(b)
		if ^length != binary.BigEndian.Uint32(b[4:]) || length > 65536 {
			return records, api.Bad
		}
		size := int(length) + 12
		if len(b) < size {
			break
		}
		record := b[8 : size-4]
		if string(secondFrame(record)) != string(b[:size]) {
			return records, api.Bad
		}
		records, b = append(records, record), b[size:]
	}
	if len(b) > 0 {
		return records, api.Torn
	}
	return records, api.Whole
}

// second is a log that keeps its records and works all else out of them anew.
type second struct {
	disk    *disk.Disk
	name    string
	reserve int
	records [][]byte
	broken  bool
}

// isName tells whether a text is a file's name.
func isName(name string) bool {
	for _, c := range []byte(name) {
		if (c < 'a' || c > 'z') && (c < '0' || c > '9') && c != '.' && c != '-' {
			return false
		}
	}
	return len(name) >= 1 && len(name) <= 40
}

// secondOpen opens a log as the chapter's words say, line by line.
func secondOpen(d *disk.Disk, name string, reserve int) (*second, api.Errno) {
	if !isName(name) || reserve < 1 || reserve > 1<<26 {
		return nil, api.ErrArg
	}
	s := &second{disk: d, name: name, reserve: reserve}
	b, err := d.Read(name)
	if err != api.OK {
		return s, api.OK
	}
	if d.Loose(name) != 0 {
		if err := d.Sync(name); err != api.OK {
			return nil, err
		}
	}
	how := 0
	if s.records, how = secondScan(b); how == api.Bad {
		return nil, api.ErrBroken
	}
	if how == api.Torn {
		if err := d.Cut(name, s.size()); err != api.OK {
			return nil, err
		}
	}
	if s.size() > reserve {
		return nil, api.ErrQuota
	}
	return s, api.OK
}

// size tells how many bytes the records' frames have.
func (s *second) size() int { return len(frames(s.records...)) }

// fits tells whether a record of so many bytes may come.
func (s *second) fits(n int) bool {
	return 0 <= n && n <= 65536 && s.size()+n+12 <= s.reserve
}

// commit lays a record behind the others.
func (s *second) commit(b []byte) api.Errno {
	if s.broken {
		return api.ErrBroken
	}
	if len(b) > 65536 {
		return api.ErrLong
	}
	if !s.fits(len(b)) {
		return api.ErrQuota
	}
	if err := s.disk.Append(s.name, secondFrame(b)); err != api.OK {
		s.broken = err != api.ErrFull
		return err
	}
	if err := s.disk.Sync(s.name); err != api.OK {
		s.broken = true
		return err
	}
	s.records = append(s.records, append([]byte(nil), b...))
	return api.OK
}
