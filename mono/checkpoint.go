package mono

import (
	"slices"
	"strconv"

	"tocsin/api"
	"tocsin/block"
)

// checkpoint moves the samples of the head into a block, and lets the log begin anew with what else there is. Where one of it can not be, all stays.
func (m *Machine) checkpoint() {
	if m.head.Samples() == 0 {
		m.log.Checkpoint(m.standing(m.blocks...))
		return
	}
	number := 1
	if len(m.blocks) > 0 {
		number = slices.Max(m.blocks) + 1
	}
	numbers := append(slices.Clone(m.blocks), number)
	x, e := m.writeBlock(blockFile(number))
	if e == api.OK {
		e = m.log.Checkpoint(m.standing(numbers...))
	}
	if e != api.OK {
		m.disk.Remove(blockFile(number))
		return
	}
	m.head.Cut(api.MaxTime + 1)
	m.store.Add(x)
	m.blocks = numbers
}

// writeBlock makes a block of the head's series, and lays it into a file.
func (m *Machine) writeBlock(file string) (*block.Block, api.Errno) {
	b, e, _ := block.Build(slices.Collect(m.head.All()))
	if e == api.OK {
		e = m.disk.Append(file, b)
	}
	if e == api.OK {
		e = m.disk.Sync(file)
	}
	if e != api.OK {
		return nil, e
	}
	return block.Open(b)
}

// standing answers the records of all that there is but samples, the blocks being those of these numbers.
func (m *Machine) standing(blocks ...int) [][]byte {
	return slices.Concat(
		[][]byte{configRecord(m.config, m.loaded)},
		records(ofSilence, m.silences.Records()),
		[][]byte{activeRecord(m.courses)},
		records(ofMark, m.marks.Records()),
		[][]byte{blocksRecord(blocks)},
	)
}

func blockFile(number int) string {
	return "block." + strconv.Itoa(number)
}
