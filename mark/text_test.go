package mark

import (
	"strings"
	"testing"

	"stadion/api"
)

// texts has marks and their texts.
var texts = []struct {
	m api.Mark
	s string
}{
	{timeOf(95800), "9.58"}, {timeOf(95801), "9.5801"}, {timeOf(95810), "9.5810"}, {timeOf(95000), "9.50"}, {timeOf(1034321), "1:43.4321"}, {timeOf(75450000), "2:05:45.00"},
	{timeOf(1), "0.0001"}, {timeOf(100), "0.01"}, {timeOf(599999), "59.9999"}, {timeOf(600000), "1:00.00"}, {timeOf(605000), "1:00.50"}, {timeOf(650000), "1:05.00"},
	{timeOf(35999900), "59:59.99"}, {timeOf(36000000), "1:00:00.00"}, {timeOf(360000001), "10:00:00.0001"}, {timeOf(863999999), "23:59:59.9999"},
	{lengthOf(8957), "8.957m"}, {lengthOf(8950), "8.95m"}, {lengthOf(8900), "8.90m"}, {lengthOf(8000), "8.00m"}, {lengthOf(8005), "8.005m"}, {lengthOf(0), "0.00m"}, {lengthOf(1), "0.001m"}, {lengthOf(10), "0.01m"}, {lengthOf(999999), "999.999m"},
	{pointsOf(7645), "7645p"}, {pointsOf(0), "0p"}, {pointsOf(99999), "99999p"},
	{noneOf("DNS"), "DNS"}, {noneOf("DNF"), "DNF"}, {noneOf("DQ"), "DQ"}, {noneOf("NM"), "NM"},
}

func wantMark(t *testing.T, s string, wanted api.Mark, wantedError api.Errno) {
	t.Helper()
	if m, e := Parse(s); m != wanted || e != wantedError {
		t.Errorf("Parse(%q): got %v and %v, want %v and %v", s, m, e, wanted, wantedError)
	}
}

func TestPrint(t *testing.T) {
	for _, c := range texts {
		if s, e := Print(c.m); s != c.s || e != api.OK {
			t.Errorf("Print(%v): got %q and %v, want %q", c.m, s, e, c.s)
		}
		wantMark(t, c.s, c.m, api.OK)
	}
	for wanted, m := range wrong {
		if s, e := Print(m); s != "" || e != wanted {
			t.Errorf("Print(%v): got %q and %v, want %v", m, s, e, wanted)
		}
	}
}

func TestParseOtherTexts(t *testing.T) {
	for s, m := range map[string]api.Mark{
		"9.5": timeOf(95000), "9.580": timeOf(95800), "9.5800": timeOf(95800), "9.581": timeOf(95810), "0:09.58": timeOf(95800), "0:00:09.58": timeOf(95800), "0:01:00.0": timeOf(600000),
		"1:00:00.5": timeOf(36005000), "0.1": timeOf(1000), "8.950m": lengthOf(8950), "0.000m": lengthOf(0),
	} {
		wantMark(t, s, m, api.OK)
	}
}

func TestParseErrors(t *testing.T) {
	long := strings.Repeat("9", 25)
	for e, list := range map[api.Errno][]string{
		api.ErrLong: {long, long + "p", strings.Repeat("x", 10000), "0." + long},
		api.ErrSyntax: {
			"", "x", ".", ":", "m", "p", ".m", "9", "9.", ".5", "9.12345", "9,58", "9.5s", "-9.58", "+9.58", " 9.58", "9.58 ", "9..58", "9.5.8", "9.5x",
			"09.58", "00.50", "1:5.00", "1:005.00", "01:05.00", "00:05.00", "1:.00", ":05.00", "1:0x.00", "1:-5.00", "1:+5.00", "1::05.00", "1:5:00.00", "1:05:0.00", "01:05:00.00", "1:05:00", "1:05", "0:1:05:00.00", "1:00:00:00.00",
			"8m", "8.m", "8.9m", "8.9571m", "08.95m", "-8.95m", "8.95M", "8.95mm", "8.95 m", "8:08.95m", ".95m", "8.9xm", "8.95x",
			"7645", "07p", "00p", "-1p", "1.5p", "7pp", "7P", "1 p", "1:00p",
			"dnf", "DNFx", "dq", "DN", " NM", "none",
			"1234567890.50", "1234567890:00.50", "1234567890:00:00.50", "1234567890.00m", "1234567890p", "٩.58", "9.5\x00",
		},
		api.ErrRange: {
			"61.00", "60.00", "123456789.00", "1:60.00", "1:99.00", "60:00.00", "100:00.00", "123456789:00.00", "1:60:00.00", "1:00:60.00", "0:60:00.00", "0:00:99.00",
			"0.00", "0.0000", "0:00.0", "0:00:00.00", "24:00:00.00", "99:00:00.00", "999999999:59:59.9999",
			"1000.00m", "999999999.999m", "100000p", "999999999p",
		},
	} {
		for _, s := range list {
			wantMark(t, s, api.Mark{}, e)
		}
	}
	wantMark(t, "123456789:00:00.00", api.Mark{}, api.ErrRange)
	wantMark(t, strings.Repeat("9", 24), api.Mark{}, api.ErrSyntax)
}

func TestTextsAreReadAsTheirMarks(t *testing.T) {
	for _, marks := range allMarks() {
		for _, m := range marks {
			s, e := Print(m)
			if e != api.OK {
				t.Fatalf("Print(%v): got %v", m, e)
			}
			wantMark(t, s, m, api.OK)
		}
	}
	for n := 1; n <= api.MaxTime; n += 9973 {
		s, _ := Print(timeOf(n))
		wantMark(t, s, timeOf(n), api.OK)
	}
}
