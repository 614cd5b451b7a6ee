package over

// function is what a name of the table stands for.
type function interface {
	needs() int // how many samples it must have
	comesTo(w window, q float64) float64
}

// plain is a function without a parameter.
type plain struct {
	least int
	of    func(w window) float64
}

func (f plain) needs() int                          { return f.least }
func (f plain) comesTo(w window, _ float64) float64 { return f.of(w) }

// ruled is a function that goes by a parameter.
type ruled struct {
	least int
	of    func(w window, q float64) float64
}

func (f ruled) needs() int                          { return f.least }
func (f ruled) comesTo(w window, q float64) float64 { return f.of(w, q) }

func hasParameter(f function) bool {
	switch f.(type) {
	case ruled:
		return true
	}
	return false
}

// entry is a line of the table.
type entry struct {
	name string
	of   function
}

func table() []entry {
	return []entry{
		{"sum_over_time", plain{1, window.sum}},
		{"avg_over_time", plain{1, window.average}},
		{"min_over_time", plain{1, window.least}},
		{"max_over_time", plain{1, window.greatest}},
		{"count_over_time", plain{1, window.count}},
		{"last_over_time", plain{1, window.last}},
		{"present_over_time", plain{1, window.present}},
		{"quantile_over_time", ruled{1, window.quantile}},
		{"changes", plain{1, window.changes}},
		{"resets", plain{1, window.resets}},
		{"delta", plain{2, window.delta}},
		{"increase", plain{2, window.increase}},
		{"rate", plain{2, window.rate}},
		{"irate", plain{2, window.lastRate}},
		{"idelta", plain{2, window.lastDelta}},
	}
}

func find(name string) (function, bool) {
	for _, x := range table() {
		if x.name == name {
			return x.of, true
		}
	}
	return nil, false
}
