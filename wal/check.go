package wal

import (
	"bytes"

	"tocsin/api"
	"tocsin/vint"
)

// Checkpoint lays the records r in the place of all that are there. Until the new file has the checkpoint's name, the old records hold; from then on the new ones.
func (l *Log) Checkpoint(r [][]byte) api.Errno {
	if l.isNone() {
		return api.ErrNil
	}
	content, e := checkpointOf(l.number+1, r)
	switch {
	case e != api.OK:
		return e
	case l.number == lastNumber:
		return api.ErrFull
	}
	if e := l.writeCheckpoint(content); e != api.OK {
		return e
	}
	for _, number := range l.Segments() {
		l.disk.Remove(l.segment(number))
	}
	l.number++
	l.records = copies(r)
	return api.OK
}

// writeCheckpoint lays the checkpoint of this content in the place of the one that is there, or, if the disk refuses, does nothing.
func (l *Log) writeCheckpoint(content []byte) api.Errno {
	frame, e := vint.PutFrame(nil, content)
	if e != api.OK {
		return e
	}
	file := l.file(newEnd)
	l.disk.Remove(file)
	e = l.disk.Append(file, frame)
	if e == api.OK {
		e = l.disk.Sync(file)
	}
	if e == api.OK {
		e = l.disk.Rename(file, l.file(checkEnd))
	}
	if e != api.OK {
		l.disk.Remove(file)
	}
	return e
}

// checkpointOf answers the content of a checkpoint; ErrSize, if it, or a record, is too long for a frame.
func checkpointOf(first int, r [][]byte) ([]byte, api.Errno) {
	out := vint.PutU(nil, uint64(first))
	out = append(out, vint.PutU(nil, uint64(len(r)))...)
	for _, record := range r {
		if len(record) > api.MaxFrame {
			return nil, api.ErrSize
		}
		out = append(out, vint.PutU(nil, uint64(len(record)))...)
		out = append(out, record...)
		if len(out) > api.MaxFrame {
			return nil, api.ErrSize
		}
	}
	return out, api.OK
}

// parseCheckpoint reads a checkpoint's file: the number of the first segment behind it, and its records; false, if b is none.
func parseCheckpoint(b []byte) (int, [][]byte, bool) {
	content, end, e := vint.Frame(b, 0)
	if e != api.OK || end != len(b) {
		return 0, nil, false
	}
	first, at, e := vint.U(content, 0)
	if e != api.OK || first < 1 || first > lastNumber {
		return 0, nil, false
	}
	count, at, e := vint.U(content, at)
	if e != api.OK {
		return 0, nil, false
	}
	var records [][]byte
	for ; count > 0; count-- {
		size, from, e := vint.U(content, at)
		if e != api.OK || size > uint64(len(content)-from) {
			return 0, nil, false
		}
		at = from + int(size)
		records = append(records, content[from:at:at])
	}
	return int(first), records, at == len(content)
}

func copies(l [][]byte) [][]byte {
	out := make([][]byte, len(l))
	for i, b := range l {
		out[i] = bytes.Clone(b)
	}
	return out
}
