package parse

import "tocsin/api"

// labelJoin may have more arguments than Kinds tells: all but the first one and the separator are names of labels.
const (
	labelJoin   = "label_join"
	ofVector    = 0
	ofSeparator = 2
)

// Kinds answers the types of a function's arguments, and its own.
func Kinds(name string) ([]int, int, bool) {
	switch name {
	case "sum_over_time", "avg_over_time", "min_over_time", "max_over_time", "count_over_time", "last_over_time", "present_over_time", "absent_over_time",
		"changes", "resets", "delta", "increase", "rate", "irate", "idelta":
		return []int{api.VMatrix}, api.VVector, true
	case "quantile_over_time":
		return []int{api.VScalar, api.VMatrix}, api.VVector, true
	case "abs", "ceil", "floor", "round", "sqrt", "sgn", "sort", "sort_desc", "timestamp", "absent":
		return []int{api.VVector}, api.VVector, true
	case "clamp":
		return []int{api.VVector, api.VScalar, api.VScalar}, api.VVector, true
	case "clamp_min", "clamp_max":
		return []int{api.VVector, api.VScalar}, api.VVector, true
	case "histogram_quantile":
		return []int{api.VScalar, api.VVector}, api.VVector, true
	case labelJoin:
		return []int{api.VVector, api.VString, api.VString}, api.VVector, true
	case "scalar":
		return []int{api.VVector}, api.VScalar, true
	case "vector":
		return []int{api.VScalar}, api.VVector, true
	case "time":
		return nil, api.VScalar, true
	}
	return nil, 0, false
}
