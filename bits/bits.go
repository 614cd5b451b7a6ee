// Package bits is layer 2: streams of bits. See shared/doc/02-bits.md.
package bits

// widths are how many bits of the number stand in each row of its form; a row's number is how many bits 1 its form begins with.
var widths = [9]int{0, 3, 6, 9, 12, 18, 25, 56, 64}

// lastRow is the row that takes every number.
const lastRow = 8

// headBits is how many bits stand ahead of the number: the row's bits 1, and a 0 that ends them; behind the last row's nothing else can come, so it has none.
func headBits(row int) int {
	return min(row+1, lastRow)
}

func head(row int) uint64 {
	return (1<<row - 1) << (headBits(row) - row)
}

// rowOf answers the first row that fits n.
func rowOf(n int64) int {
	row := 0
finding:
	for row < lastRow {
		switch {
		case fits(n, widths[row]):
			break finding
		default:
			row++
		}
	}
	return row
}

// fits tells whether n is in R(k); in no bits just 0 is.
func fits(n int64, k int) bool {
	if k == 0 {
		return n == 0
	}
	half := int64(1) << (k - 1)
	return -half < n && n <= half
}

// number answers what k bits say; unlike two's complement, R(k) has the half itself among the numbers above 0.
func number(v uint64, k int) int64 {
	if k == 0 || k == 64 || v <= 1<<(k-1) {
		return int64(v)
	}
	return int64(v) - 1<<k
}
