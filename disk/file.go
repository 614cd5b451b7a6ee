package disk

// file has bytes, of which the first ones are synced.
type file struct {
	bytes  []byte
	synced int
}

func (f *file) twin() *file {
	return &file{bytes: copyOf(f.bytes), synced: f.synced}
}

// cut leaves the first n bytes, and lets go of the memory of the others.
func (f *file) cut(n int) {
	f.bytes = copyOf(f.bytes[:n])
	f.synced = min(f.synced, n)
}

// crash leaves at most so many bytes behind those that are synced; what outlives a crash is lasting.
func (f *file) crash(kept int) {
	written := len(f.bytes) - f.synced
	f.cut(f.synced + min(kept, written))
	f.synced = len(f.bytes)
}

func copyOf(b []byte) []byte {
	out := make([]byte, len(b))
	copy(out, b)
	return out
}
