package taker

import "lighter/dgram"

// welcome: how many bytes are there, and their sum.
func (t *Taker) welcome(d dgram.Datagram) []string {
	state := t.keep.State()
	return answer(d, dgram.Datagram{
		Kind: dgram.Welcome,
		At:   uint64(state.Size),
		Sum:  state.Sum,
		Last: state.Done,
	})
}

// ack: how many bytes are there, and which numbers' texts.
func (t *Taker) ack(d dgram.Datagram) []string {
	next, there := t.window.Ack()
	return answer(d, dgram.Datagram{
		Kind: dgram.Ack,
		Seq:  next,
		At:   uint64(t.keep.State().Size),
		Map:  there,
	})
}

// abort: it doesn't go on.
func abort(d dgram.Datagram) []string {
	return answer(d, dgram.Datagram{Kind: dgram.Abort})
}

// answer a datagram: by its session and its epoch.
func answer(d, a dgram.Datagram) []string {
	a.Session, a.Epoch = d.Session, d.Epoch
	text, _ := dgram.Encode(a)
	return []string{text}
}
