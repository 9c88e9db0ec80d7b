package taker

import (
	"lighter/api"
	"lighter/dgram"
	"lighter/recv"
)

// data of the other side.
func (t *Taker) data(d dgram.Datagram) ([]string, api.Errno) {
	state := t.keep.State()
	switch {
	case d.Session != state.Session:
		return nil, api.OK
	case t.aborted != api.OK:
		return abort(d), api.OK
	case state.Done:
		return t.welcome(d), api.OK
	case !t.hear(d.Epoch):
		return nil, api.OK
	case !t.fallIn(d):
		return t.welcome(d), api.OK
	}
	t.hold(d)
	if err := t.advance(); err != api.OK {
		return nil, err
	}
	switch {
	case t.aborted != api.OK:
		return abort(d), api.OK
	case t.keep.State().Done:
		return t.welcome(d), api.OK
	}
	return t.ack(d), api.OK
}

// fallIn step, where a datagram stands just behind what is there: is it in step?
func (t *Taker) fallIn(d dgram.Datagram) bool {
	if t.window == nil && d.At == uint64(t.keep.State().Size) {
		t.window, _ = recv.New(d.Seq, t.size)
		t.notes = map[uint32]note{}
	}
	return t.window != nil
}

// hold a datagram's text, till it is the next one.
func (t *Taker) hold(d dgram.Datagram) {
	if t.window.Take(d.Seq, d.Text) {
		t.notes[d.Seq] = note{at: d.At, sum: d.Sum, last: d.Last}
	}
}

// next text, and its note.
func (t *Taker) next() (string, note, bool) {
	number, _ := t.window.Ack()
	text, ok := t.window.Next()
	told := t.notes[number]
	delete(t.notes, number)
	return text, told, ok
}

// advance as far as the texts go.
func (t *Taker) advance() api.Errno {
	if t.failed {
		return api.ErrState // the text that was next is so still, and the keep takes nothing any more
	}
	for t.aborted == api.OK && !t.keep.State().Done {
		text, told, ok := t.next()
		if !ok {
			return api.OK
		}
		if err := t.add(text, told); err != api.OK {
			t.failed = true
			return err
		}
	}
	return api.OK
}

// add the next text to what is there, or abort.
func (t *Taker) add(text string, told note) api.Errno {
	state := t.keep.State()
	if told.at != uint64(state.Size) || told.sum != t.table.More(state.Sum, text) {
		t.aborted = api.ErrSum
		return api.OK
	}
	if _, fault := t.parser.Feed(text); fault != api.OK {
		t.aborted = fault
		return api.OK
	}
	switch err := t.keep.Append(text); err {
	case api.OK:
		t.staged.WriteString(text)
		return t.end(told.last)
	case api.ErrFull:
		t.aborted = err
		return api.OK
	default:
		return err
	}
}

// end of the archive, where a text is the last one: else it must go on.
func (t *Taker) end(last bool) api.Errno {
	whole := t.parser.Whole()
	switch {
	case last && whole:
		return t.keep.Commit()
	case last || whole:
		t.aborted = api.ErrEnd
	}
	return api.OK
}
