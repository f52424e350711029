package twin

import (
	"firebreak/api"
	"firebreak/conf"
	"firebreak/run"
	"firebreak/view"
)

// half is one of two twins, on the way through its script.
type half struct {
	config api.Config
	run    *run.Run
	steps  []api.Step // those that have not begun
	due    int        // how many slots are left of the step that has begun
}

// moment is what everybody may know of a run: how many ticks there were, and whose slot the last one was.
type moment struct {
	tick  int64
	owner int
}

// start is a half none of whose steps has begun. Its config may be.
func start(c api.Config, steps []api.Step) *half {
	// What may be is written, and what is written boots, so there are no errors.
	raw, _ := conf.Encode(c)
	r, _, _ := run.Boot(raw)
	return &half{config: c, run: r, steps: steps}
}

// over tells whether all steps are done.
func (h *half) over() bool { return h.due == 0 && len(h.steps) == 0 }

// next does the slot that is due, if one is, and all steps ahead of the slot behind it.
func (h *half) next() {
	if h.due > 0 {
		h.run.Do(api.Step{Kind: api.StepTick, N: 1})
		h.due--
	}
	for h.due == 0 && len(h.steps) > 0 {
		h.begin(h.steps[0])
		h.steps = h.steps[1:]
	}
}

// begin does a step; of one that is answered by slots they are due from now on.
func (h *half) begin(s api.Step) {
	if s.Kind == api.StepTick && h.room(s.N) {
		h.due = s.N
		return
	}
	h.run.Do(s)
}

// room tells whether so many slots, asked for in one step, are had.
func (h *half) room(n int) bool { return n >= 1 && int64(n) <= api.MaxTicks-h.now().tick }

// now is the moment. (A step of no kind does nothing, and its answer tells the moment.)
func (h *half) now() moment {
	a := h.run.Do(api.Step{Kind: api.StepNone})
	return moment{a.Tick, a.Owner}
}

// seen is what an observer of a label sees.
func (h *half) seen(label uint64) api.State { return view.Of(h.config, h.run.State(), label) }
