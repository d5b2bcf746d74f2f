package disk

import "belfry/api"

// Crash lets all that is not safe go, but for what a file's Keep says.
func (d *Disk) Crash(l []api.Keep) api.Errno {
	if d == nil {
		return api.ErrNil
	}
	keeps := make(map[string]int)
	for i, k := range l {
		if _, twice := keeps[k.Name]; twice {
			return api.ErrTwice
		}
		if e := d.canKeep(k); e != api.OK {
			return e
		}
		keeps[k.Name] = i
	}
	for name, f := range d.files {
		if i, ok := keeps[name]; ok {
			f.crash(l[i].N)
		} else {
			f.crash(nil)
		}
	}
	return api.OK
}

// canKeep tells what is wrong with a Keep on its own.
func (d *Disk) canKeep(k api.Keep) api.Errno {
	f, e := d.find(k.Name)
	if e != api.OK {
		return e
	}
	if len(k.N) > len(f.begins) {
		return api.ErrArg
	}
	for _, n := range k.N {
		if n < 0 {
			return api.ErrArg
		}
	}
	return api.OK
}
