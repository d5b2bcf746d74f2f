package fair

import (
	"cmp"
	"slices"

	"belfry/api"
)

// Gather tells the jobs of all lists by their numbers, rising; those of one number stay in the order of the lists, and of each list.
func Gather(lists ...[]api.Job) []api.Job {
	var out []api.Job
	for pair := range slices.Chunk(lists, 2) {
		for _, l := range taken(pair) {
			out = append(out, l...)
		}
	}
	slices.SortStableFunc(out, func(a, b api.Job) int { return cmp.Compare(a.Id, b.Id) })
	return out
}

// taken takes two lists that come each from a goroutine of its own; a second one that is not there is an empty one. Whichever comes first, each stands in its own place. A select has as many cases as are written, so lists come two at a time; and so there are never many goroutines, however many lists there are.
func taken(pair [][]api.Job) [2][]api.Job {
	var out [2][]api.Job
	copy(out[:], pair)
	first, second := brought(out[0]), brought(out[1])
	for range 2 {
		select {
		case out[0] = <-first:
		case out[1] = <-second:
		}
	}
	return out
}

// brought sends a list, once, from a goroutine that ends with it.
func brought(l []api.Job) <-chan []api.Job {
	out := make(chan []api.Job)
	go func() { out <- l }()
	return out
}
