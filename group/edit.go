package group

import "stet/api"

// edit is an edit, and the clock of the last one ahead of it.
type edit struct {
	last  Clock
	time  int64
	first api.Step
	delay uint64
}

// reasons tell why an edit begins a new group: one that holds is enough.
func reasons() []func(edit) bool {
	return []func(edit) bool{edit.shut, edit.early, edit.late, edit.apart}
}

// shut: nothing is added to the last group any more.
func (x edit) shut() bool { return !x.last.Open }

// early: its time is ahead of the last edit's.
func (x edit) early() bool { return x.time < x.last.Time }

// late: it is behind the last edit by more than the delay, if it isn't early. Without signs their distance can't go round.
func (x edit) late() bool { return uint64(x.time)-uint64(x.last.Time) > x.delay }

// apart: it begins where the last edit has changed nothing.
func (x edit) apart() bool { return !Touches(x.first, x.last.Spans) }
