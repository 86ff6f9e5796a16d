package stone

import (
	"iter"
	"slices"

	"senvy/api"
)

// What stones do in an hour, as plans have it.
const (
	rests  = 0
	grinds = 1
)

// bench is a valid mill, or one whose Limit is greater by 1 than it can be.
type bench struct {
	api.StoneMill
}

// room is how warm it is in each hour.
type room func(hour int) int64

func (b bench) warm(hour int) int64 { return b.Hours[hour].Room.Hi }
func (b bench) cool(hour int) int64 { return b.Hours[hour].Room.Lo }

// warmer returns a room that is warmer in each hour.
func (r room) warmer(by int64) room {
	return func(hour int) int64 { return r(hour) + by }
}

// heating is how warm the stones get in an hour, by what they do in it, and by the heat at its beginning.
type heating func(hour, work int, heat int64) int64

// in returns how warm the stones get in a room.
func (b bench) in(r room) heating {
	return func(hour, work int, heat int64) int64 {
		if work == grinds {
			return max(heat, r(hour)) + b.Gain
		}
		return max(r(hour), heat-b.Fall)
	}
}

// course returns the heat at the end of each hour of a plan, from one hour on, which begins with a heat.
func (gets heating) course(plan []int, from int, heat int64) []int64 {
	var out []int64
	for hour := from; hour < len(plan); hour++ {
		heat = gets(hour, plan[hour], heat)
		out = append(out, heat)
	}
	return out
}

// hottest returns the greatest heat at the end of an hour of a plan.
func (b bench) hottest(plan []int, gets heating) int64 {
	return slices.Max(gets.course(plan, 0, b.Start))
}

// safe reports whether a plan is safe in a room.
func (b bench) safe(plan []int, r room) bool {
	return b.hottest(plan, b.in(r)) <= b.Limit
}

// ground returns how much a plan grinds.
func (b bench) ground(plan []int) int64 {
	var sum int64
	for hour, work := range plan {
		if work == grinds {
			sum += b.Hours[hour].Pounds
		}
	}
	return sum
}

// warmth returns by how much the warm room could be warmer in each hour, at most, so that a safe plan were still safe.
func (b bench) warmth(plan []int) int64 {
	var by int64
	// The stones are never less warm than the room, so this ends.
	for b.safe(plan, room(b.warm).warmer(by+1)) {
		by++
	}
	return by
}

// latest returns for each hour of a safe plan the greatest heat from which on the rest of it is safe in the warm room.
func (b bench) latest(plan []int) []int64 {
	out := make([]int64, len(plan))
	gets := b.in(b.warm)
search:
	for hour := range plan {
		for heat := b.Limit; heat >= 0; heat-- {
			if slices.Max(gets.course(plan, hour, heat)) <= b.Limit {
				out[hour] = heat
				continue search
			}
		}
	}
	return out
}

// moment is the beginning of an hour, or the end of the last one, with the heat that the stones have then.
type moment struct {
	hour int
	heat int64
}

// tooWarm reports whether the stones are warmer at a moment than they can be.
func (b bench) tooWarm(at moment) bool { return at.heat > b.Limit }

// choice is what can be done in an hour, what it grinds, and the moment at which it ends.
type choice struct {
	work   int
	pounds int64
	end    moment
}

// choices yields what can be done in the hour that begins at a moment, in the warm room, be it too warm or not.
func (b bench) choices(at moment) iter.Seq[choice] {
	return func(yield func(choice) bool) {
		gets := b.in(b.warm)
		for work, pounds := range [...]int64{rests: 0, grinds: b.Hours[at.hour].Pounds} {
			end := moment{at.hour + 1, gets(at.hour, work, at.heat)}
			if !yield(choice{work, pounds, end}) {
				return
			}
		}
	}
}

// best returns the first one of several that no other one is better than.
func best[T any](better func(one, two T) bool, first T, others ...T) T {
	top := first
	for _, other := range others {
		if better(other, top) {
			top = other
		}
	}
	return top
}
