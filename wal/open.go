package wal

import (
	"tocsin/api"
	"tocsin/disk"
	"tocsin/vint"
)

// Open finds the log of a name on a disk, and tells its records. What a crash has torn is cut off, and what no longer belongs to it is removed.
func Open(d *disk.Disk, name string, room int) (*Log, [][]byte, api.Errno) {
	switch {
	case d == nil:
		return nil, nil, api.ErrNil
	case !isLogName(name):
		return nil, nil, api.ErrName
	case room < leastRoom || room > api.MaxFile:
		return nil, nil, api.ErrArg
	}
	l := &Log{disk: d, name: name, room: room}
	d.Remove(l.file(newEnd))
	if e := l.readCheckpoint(); e != api.OK {
		return nil, nil, e
	}
	l.readSegments()
	var told [][]byte
	for r := range l.All() {
		told = append(told, r)
	}
	return l, told, api.OK
}

// readCheckpoint reads the checkpoint's records, and goes to its first segment; without a checkpoint that is the segment 1.
func (l *Log) readCheckpoint() api.Errno {
	l.number = 1
	b, e := l.disk.Read(l.file(checkEnd))
	if e == api.ErrNone {
		return api.OK
	}
	first, records, ok := parseCheckpoint(b)
	if e != api.OK || !ok {
		return api.ErrForm
	}
	l.number, l.records = first, records
	l.disk.Sync(l.file(checkEnd))
	return api.OK
}

// readSegments reads the segments from the log's number on, up to the first that is torn or not there, and removes all others. The log goes on in the last one that it has read.
func (l *Log) readSegments() {
	first := l.number
reading:
	for number := first; number <= lastNumber; number++ {
		switch whole, fault := l.readSegment(number); fault {
		case api.ErrNone:
			break reading
		default:
			l.number = number
			l.records = append(l.records, whole...)
			if fault != api.OK {
				break reading
			}
		}
	}
	l.removeOthers(first, l.number)
}

// readSegment answers the records of a segment: with ErrNone, if there is no such file; with the error of the first frame that is torn, having cut the file there. What is told is synced: a crash must not take it back.
func (l *Log) readSegment(number int) ([][]byte, api.Errno) {
	file := l.segment(number)
	b, e := l.disk.Read(file)
	if e != api.OK {
		return nil, api.ErrNone
	}
	whole, end, fault := vint.Frames(b)
	if fault != api.OK {
		l.disk.Cut(file, end)
	}
	l.disk.Sync(file)
	return whole, fault
}

// removeOthers removes the segments whose numbers are not from first to last.
func (l *Log) removeOthers(first, last int) {
	for _, number := range l.Segments() {
		if number < first || number > last {
			l.disk.Remove(l.segment(number))
		}
	}
}
