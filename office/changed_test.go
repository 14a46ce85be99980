package office

import (
	"fmt"
	"testing"

	"stadion/api"
)

func TestChanged(t *testing.T) {
	change := func(athletes ...string) []Change {
		return repeated(len(athletes), func(i int) Change { return Change{"final", athletes[i]} })
	}
	four := "publish final ann=10.50 bea=10.40 cat=10.60 dan=DNS"
	for i, x := range []struct {
		a, b []string
		want []Change
	}{
		{nil, nil, nil},
		{example(1), example(1), nil},
		{example(1), example(2), nil},
		{example(1), example(5), nil},
		{example(1), example(1, "confirm final"), nil},
		{nil, example(1), change("ann", "bea", "cat")},
		{[]string{four}, []string{four, "strike final bea"}, change("ann", "bea", "cat")},
		{[]string{four}, []string{four, "strike final cat"}, change("cat")},
		{[]string{four}, []string{four, "strike final dan"}, change("dan")},
		{[]string{four}, []string{four, "correct final cat 10.45"}, change("ann", "cat")},
		{[]string{four}, []string{four, "correct final bea 10.41"}, change("bea")},
		{[]string{four}, []string{four, "correct final ann 10.40"}, change("ann")},
		{[]string{four}, []string{four, "correct final bea 10.50"}, change("ann", "bea")},
		{[]string{four}, []string{four, "correct final dan NM"}, change("dan")},
		{[]string{four}, []string{four, "void final"}, change("ann", "bea", "cat")},
		{[]string{four, "void final"}, []string{four, "strike final bea", "void final"}, change("bea")},
		{[]string{four}, []string{"publish final dan=DNS eva=10.70 bea=10.40 ann=10.50"}, change("cat", "eva")},
		{[]string{four}, []string{"publish heat ann=10.50"}, append(change("ann", "bea", "cat", "dan"), Change{"heat", "ann"})},
		{[]string{"publish b x=1p", "publish a z=1p y=2p"}, []string{"publish B x=1p", "publish a y=1p z=2p"}, []Change{{"B", "x"}, {"a", "y"}, {"a", "z"}, {"b", "x"}}},
	} {
		a, b := after(t, x.a...), after(t, x.b...)
		got, e := Changed(a, b)
		checkBoth(t, fmt.Sprint("the changes ", i), got, e, x.want, api.OK)
		got, e = Changed(b, a)
		checkBoth(t, fmt.Sprint("the changes ", i, " backwards"), got, e, x.want, api.OK)
	}
}

func TestErrorsOfChanged(t *testing.T) {
	form, order := anOffice(), anOffice()
	form.Protests[0].Upheld = true
	order.Protests[1].Number = 3
	for i, x := range []struct {
		a, b Office
		want api.Errno
	}{{form, order, api.ErrForm}, {order, form, api.ErrOrder}, {anOffice(), order, api.ErrOrder}, {form, anOffice(), api.ErrForm}} {
		got, e := Changed(x.a, x.b)
		checkBoth(t, fmt.Sprint("the changes ", i), got, e, nil, x.want)
	}
}
