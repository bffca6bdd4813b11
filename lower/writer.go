package lower

import (
	"attest/api"
	"attest/field"
	"attest/source"
)

// writer writes instructions, one behind the other.
type writer struct {
	f      *field.Field
	list   []api.Ins
	calls  []call
	frames map[string]frame // of the functions that are written, by their names
}

// call is a place that is left for a call: what is called may be written later.
type call struct {
	at int
	of string
}

// frame is where a function begins, and how many cells it has of its own.
type frame struct{ begins, size int }

// write puts an instruction behind all others.
func (w *writer) write(op, a, b, c int) { w.fill(w.leave(), op, a, b, c) }

// leave leaves a place for an instruction of which not all is known yet.
func (w *writer) leave() int {
	w.list = append(w.list, api.Ins{})
	return len(w.list) - 1
}

// fill puts an instruction in a place that was left.
func (w *writer) fill(at, op, a, b, c int) {
	w.list[at] = api.Ins{Op: op, A: w.f.Of(a), B: w.f.Of(b), C: w.f.Of(c)}
}

// call leaves a place for a call.
func (w *writer) call(name string) { w.calls = append(w.calls, call{at: w.leave(), of: name}) }

// fillCalls puts all calls in their places, once all functions are written.
func (w *writer) fillCalls() {
	for _, c := range w.calls {
		called := w.frames[c.of]
		w.fill(c.at, api.OpCall, called.begins, called.size, 0)
	}
}

// begin writes what comes first: main is called with what the first cells are set to, and the cell behind them is what it
// comes to. As main may be called once more, it has a frame like all others.
func (w *writer) begin(args int) {
	for i := range args {
		w.write(api.OpSet, i, 0, 0)
	}
	for i := range args {
		w.write(api.OpPass, i, i, 0)
	}
	w.call("main")
	w.write(api.OpTake, args, 0, 0)
	w.write(api.OpHalt, args, 0, 0)
}

// function writes a function. Its cells are first its names in brackets, which are told by who calls it, and then one that
// is 0, as copies and minus need it.
func (w *writer) function(shown source.Function) {
	b := &body{writer: w, names: map[string]int{}}
	begins := len(w.list)
	for _, name := range shown.Names {
		b.names[name] = b.cell()
	}
	b.zero = b.cell()
	b.write(api.OpSet, b.zero, 0, 0)
	b.write(api.OpBack, b.value(shown.Body), 0, 0)
	w.frames[shown.Name] = frame{begins: begins, size: b.cells}
}
