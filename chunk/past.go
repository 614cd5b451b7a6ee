package chunk

import "tocsin/api"

// past is what the form of the next sample hangs on; who writes and who reads keep it alike.
type past struct {
	count  int
	last   api.Sample
	gap    int64 // from the one ahead of the last one to it
	window window
}

// window is the part of a value's turned bits that was written last: so many bits ahead of it, and behind it, are not in it.
type window struct {
	there bool
	lead  int
	tail  int
}

// A window is written as how many bits are ahead of it, at most mostLead, and how many are in it.
const (
	mostLead = 31
	leadBits = 5
	sizeBits = 6
)

func (w window) size() int {
	return 64 - w.lead - w.tail
}

// holds: is what another window would have in this one?
func (w window) holds(other window) bool {
	return w.there && other.lead >= w.lead && other.tail >= w.tail
}

// add goes on behind the sample s.
func (p *past) add(s api.Sample) {
	p.gap = s.T - p.last.T
	p.last = s
	p.count++
}

// turnWidths are the bits of how the gap between two samples has turned, form by form. A form begins with as many bits 1 as forms stand ahead of it here, and a bit 0, which the last one does not need.
var turnWidths = [5]int{0, 14, 17, 20, 64}

const lastForm = len(turnWidths) - 1

// formOf answers the first form that has room for d.
func formOf(d int64) int {
	form := 0
finding:
	for ; form < lastForm; form++ {
		switch width := turnWidths[form]; {
		case d == 0, width > 0 && inR(d, width):
			break finding
		}
	}
	return form
}

// inR: is d in R(k), from -(2^(k-1) - 1) to 2^(k-1)?
func inR(d int64, k int) bool {
	half := int64(1) << (k - 1)
	return d > -half && d <= half
}

// ofR answers the number of R(k) whose lowest k bits are v; of 64 bits, two's complement; of none, 0.
func ofR(v uint64, k int) int64 {
	if k > 0 && k < 64 && v > 1<<(k-1) {
		return int64(v) - 1<<k
	}
	return int64(v)
}
