// Package digits reads whole numbers as queries and scripts have them.
package digits

import "strconv"

// most is how many digits a number may have; it is far below what an int64 holds.
const most = 16

// Read answers the number that decimal digits say; false, if s is none.
func Read(s string) (int64, bool) {
	if len(s) > most {
		return 0, false
	}
	n, err := strconv.ParseUint(s, 10, 64)
	if err != nil {
		return 0, false
	}
	return int64(n), true
}
