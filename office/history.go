package office

import "stadion/api"

// history is the events that were accepted, and the offices that those of them that count have made, one after another.
type history struct {
	events  []api.Event
	offices []Office
}

// office returns the office after the events.
func (h *history) office() Office {
	if len(h.offices) == 0 {
		return Office{}
	}
	return h.offices[len(h.offices)-1]
}

// add accepts a further event, or returns the error with which it is not accepted.
func (h *history) add(e api.Event) api.Errno {
	err := first(CheckEvent(e), when(e.Number != len(h.events)+1, api.ErrOrder))
	if err != api.OK {
		return err
	}
	if err := kinds()[e.Kind].happen(h, e); err != api.OK {
		return err
	}
	h.events = append(h.events, e)
	return api.OK
}

// replay returns the history of some events, or the place of the first one with an error. It shows the offices before and after each event.
func replay(l []api.Event, show func(before, after Office)) (history, int, api.Errno) {
	if len(l) > api.MaxEvents {
		return history{}, 0, api.ErrMany
	}
	var h history
	for i, e := range l {
		before := h.office()
		if err := h.add(e); err != api.OK {
			return history{}, i + 1, err
		}
		show(before, h.office())
	}
	return h, 0, api.OK
}

func showNothing(_, _ Office) {}

// Replay returns the office after some events.
func Replay(l []api.Event) (Office, int, api.Errno) {
	h, place, e := replay(l, showNothing)
	return h.office(), place, e
}

// Accepts returns the error with which an event is not accepted after others.
func Accepts(l []api.Event, e api.Event) api.Errno {
	h, _, err := replay(l, showNothing)
	return first(
		err,
		CheckEvent(e),
		when(len(l) == api.MaxEvents, api.ErrMany),
		h.add(e))
}

// Feed returns the feed of events.
func Feed(l []api.Event) ([]Sheet, api.Errno) {
	var feed []Sheet
	_, _, e := replay(l, func(before, after Office) {
		for _, s := range after.Sheets {
			if old, known := before.sheetOf(s.Race); !known || !old.equals(s) {
				feed = append(feed, s.clone())
			}
		}
	})
	if e != api.OK {
		return nil, e
	}
	return feed, api.OK
}
