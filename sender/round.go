package sender

import "lighter/dgram"

// Tick: a round goes by: what is sent.
func (s *Sender) Tick() []string {
	if s == nil {
		return nil
	}
	round := s.round()
	var told []string
	for _, d := range round() {
		text, _ := dgram.Encode(d)
		told = append(told, text)
	}
	if !s.timer.On() {
		s.timer.Start()
	}
	return told
}

// round of the phase: what is sent in it.
func (s *Sender) round() func() []dgram.Datagram {
	switch s.phase {
	case Greeting:
		return s.greeting
	case Sending:
		return s.sending
	}
	return s.resting
}

// greeting: a round of it.
func (s *Sender) greeting() []dgram.Datagram {
	if s.timer.On() && !s.timer.Tick() {
		return nil
	}
	return []dgram.Datagram{s.hello()}
}

// sending: a round of it.
func (s *Sender) sending() []dgram.Datagram {
	open := s.window.Open() // asked ahead of Fresh, so that nothing is sent twice in a round
	told := s.data(s.window.Fresh())
	switch {
	case !s.timer.Tick():
		return told
	case s.window.Done():
		return append(told, s.hello())
	}
	return append(told, s.data(open)...)
}

// resting: a round in which nothing is sent.
func (s *Sender) resting() []dgram.Datagram { return nil }

// hello to the other side.
func (s *Sender) hello() dgram.Datagram {
	return dgram.Datagram{Kind: dgram.Hello, Session: s.session, Epoch: s.epoch}
}

// data of some numbers.
func (s *Sender) data(numbers []uint32) []dgram.Datagram {
	var l []dgram.Datagram
	for _, n := range numbers {
		i := int(n)
		l = append(l, dgram.Datagram{
			Kind:    dgram.Data,
			Session: s.session,
			Epoch:   s.epoch,
			Seq:     n,
			At:      uint64(s.cargo.segments[i].at),
			Sum:     s.cargo.segments[i+1].sum,
			Last:    i+1 == s.cargo.end(),
			Text:    s.cargo.segments[i].text,
		})
	}
	return l
}
