package labels

import (
	"tocsin/api"
	"tocsin/vint"
)

// Put answers b's bytes with those of a right label set behind them.
func Put(b []byte, l []api.Label) ([]byte, api.Errno) {
	if e, _ := Right(l); e != api.OK {
		return nil, e
	}
	b = vint.PutU(b, uint64(len(l)))
	for _, one := range l {
		b = vint.PutText(b, one.Name)
		b = vint.PutText(b, one.Value)
	}
	return b, api.OK
}

// Read reads the label set at the place at, and tells the place behind it.
func Read(b []byte, at int) ([]api.Label, int, api.Errno) {
	n, at, e := vint.U(b, at)
	switch {
	case e != api.OK:
		return nil, 0, e
	case n > api.MaxLabels:
		return nil, 0, api.ErrFull
	}
	var set []api.Label
	for range n {
		var one api.Label
		one, at, e = readOne(b, at)
		if e != api.OK {
			return nil, 0, e
		}
		set = append(set, one)
	}
	if e, _ := Right(set); e != api.OK {
		return nil, 0, e
	}
	return set, at, api.OK
}

func readOne(b []byte, at int) (api.Label, int, api.Errno) {
	name, at, e := vint.Text(b, at, api.MaxName)
	if e != api.OK {
		return api.Label{}, 0, e
	}
	value, at, e := vint.Text(b, at, api.MaxValue)
	if e != api.OK {
		return api.Label{}, 0, e
	}
	return api.Label{Name: name, Value: value}, at, api.OK
}
