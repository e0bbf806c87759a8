package wal

import (
	"chantry/api"
	"chantry/disk"
	"chantry/sector"
)

// area hands out the sectors of a log's area that count, one behind the other.
type area struct {
	left        []byte // the bytes of the sectors that are still to come
	number      int    // of the next one
	least, most int    // the epochs that count
}

// next answers the sector that comes next, or false if none does, or it does not count: if it is none, or one of another place, or of an epoch that is past or is still to come.
func (a *area) next() (api.Sector, bool) {
	if len(a.left) == 0 {
		return api.Sector{}, false
	}
	s, e := sector.Get(a.left[:api.SectorSize])
	if e != api.OK || s.Number != a.number || !within(s.Epoch, a.least, a.most) {
		return api.Sector{}, false
	}
	a.left = a.left[api.SectorSize:]
	a.number++
	return s, true
}

// read answers the bytes of so many blocks of a disk, from one on, or what the disk refuses.
func read(d *disk.Disk, from, blocks int) ([]byte, api.Errno) {
	var image []byte
	for i := range blocks {
		b, e := d.Read(from + i)
		if e != api.OK {
			return nil, e
		}
		image = append(image, b...)
	}
	return image, api.OK
}

// records answers the texts of the records whose sectors next tells, from the first one on, as long as one begins behind the other.
func records(next func() (api.Sector, bool)) [][]byte {
	var texts [][]byte
	for {
		text, ok := record(next)
		if !ok {
			return texts
		}
		texts = append(texts, text)
	}
}

// record answers the text of the record that begins with the sector that next tells, or false if none does.
func record(next func() (api.Sector, bool)) ([]byte, bool) {
	first, ok := next()
	if !ok || first.Kind != api.KindLog {
		return nil, false
	}
	list := []api.Sector{first}
	for range first.Left {
		s, ok := next()
		if !ok {
			return nil, false
		}
		list = append(list, s)
	}
	return sector.Join(list)
}
