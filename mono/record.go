package mono

import (
	"math"

	"tocsin/api"
	"tocsin/config"
	"tocsin/labels"
	"tocsin/nflog"
	"tocsin/parts"
	"tocsin/rules"
	"tocsin/vint"
)

// What a record of the log begins with.
const (
	ofSample  = 1
	ofSilence = 2
	ofConfig  = 3
	ofActive  = 4
	ofMark    = 5
	ofBlocks  = 6
)

// record answers what is said of a thing behind the byte that tells its kind.
func record(kind byte, said ...[]byte) []byte {
	out := []byte{kind}
	for _, b := range said {
		out = append(out, b...)
	}
	return out
}

// records answers the records of several things of a kind.
func records(kind byte, things [][]byte) [][]byte {
	var out [][]byte
	for _, b := range things {
		out = append(out, record(kind, b))
	}
	return out
}

// sampleRecord answers the record of a sample of a right label set.
func sampleRecord(l []api.Label, s api.Sample) []byte {
	set, _ := labels.Put(nil, l)
	return record(ofSample, set, vint.PutI(nil, s.T), floatBytes(s.V))
}

// configRecord answers the record of a configuration that has a text.
func configRecord(c api.Config, loaded int64) []byte {
	text, _, _ := config.Print(c)
	return record(ofConfig, vint.PutI(nil, loaded), vint.PutText(nil, text))
}

// activeRecord answers the record of the alerts of the rules.
func activeRecord(courses []course) []byte {
	out := []byte{ofActive}
	for _, c := range courses {
		out = append(out, vint.PutI(nil, c.last)...)
	}
	for k := range keepers(courses) {
		out = append(out, keeperBytes(k)...)
	}
	return out
}

func keeperBytes(k *rules.Keeper) []byte {
	active := k.Active()
	out := append(vint.PutI(nil, k.Last()), vint.PutU(nil, uint64(len(active)))...)
	for _, a := range active {
		set, _ := labels.Put(nil, a.Labels)
		out = append(out, set...)
		out = append(out, vint.PutU(nil, uint64(a.State))...)
		for _, t := range []int64{a.Since, a.Fired, a.Gone} {
			out = append(out, vint.PutI(nil, t)...)
		}
		out = append(out, floatBytes(a.V)...)
	}
	return out
}

// markRecord answers the record of a mark that can be.
func markRecord(mark api.Mark) []byte {
	b, _ := nflog.Record(mark)
	return record(ofMark, b)
}

// blocksRecord answers the record of the blocks of these numbers.
func blocksRecord(numbers []int) []byte {
	out := record(ofBlocks, vint.PutU(nil, uint64(len(numbers))))
	for _, n := range numbers {
		out = append(out, vint.PutU(nil, uint64(n))...)
	}
	return out
}

// floatBytes answers the bytes of a float's bits, the lowest first.
func floatBytes(v float64) []byte {
	var out []byte
	for bits, n := math.Float64bits(v), 0; n < 8; n++ {
		out = append(out, byte(bits))
		bits >>= 8
	}
	return out
}

// readSample reads what is said of a sample.
func readSample(b []byte) ([]api.Label, api.Sample, bool) {
	r := parts.New(b)
	l, t, v := r.Labels(), r.Int(), r.Float()
	return l, api.Sample{T: t, V: v}, r.Done()
}

// readConfig reads what is said of a configuration.
func readConfig(b []byte) (api.Config, int64, bool) {
	r := parts.New(b)
	loaded, text := r.Int(), r.Text(api.MaxText)
	c, e, _ := config.Parse(text)
	return c, loaded, r.Done() && e == api.OK
}

// readActive reads what is said of the alerts of the rules of these groups.
func readActive(b []byte, groups []api.Group) ([]course, bool) {
	r := parts.New(b)
	out := make([]course, len(groups))
	for i := range out {
		out[i].last = r.Int()
	}
	for i, g := range groups {
		for _, rule := range g.Rules {
			k, ok := readKeeper(r, rule)
			if !ok {
				return nil, false
			}
			out[i].keepers = append(out[i].keepers, k)
		}
	}
	return out, r.Done()
}

// readKeeper reads what is said of the keeper of a rule; of a recording one nothing is.
func readKeeper(r *parts.Reader, rule api.Rule) (*rules.Keeper, bool) {
	if rule.Record {
		return nil, true
	}
	last := r.Int()
	var active []api.Active
	for range r.Count(api.MaxFrame) {
		active = append(active, api.Active{
			Labels: r.Labels(),
			State:  r.Count(api.SFiring),
			Since:  r.Int(),
			Fired:  r.Int(),
			Gone:   r.Int(),
			V:      r.Float(),
		})
	}
	k, e := rules.Restore(rule, active, last)
	return k, e == api.OK
}

// readBlocks reads what is said of the blocks: their numbers.
func readBlocks(b []byte) ([]int, bool) {
	r := parts.New(b)
	var out []int
	for range r.Count(api.MaxFiles) {
		out = append(out, r.Count(math.MaxInt32))
	}
	return out, r.Done()
}
