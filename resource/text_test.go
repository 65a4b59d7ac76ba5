package resource_test

import (
	"strconv"
	"strings"
	"testing"

	"berthmaster/api"
	"berthmaster/resource"
)

// TestTextExamples has the chapter's examples of texts.
func TestTextExamples(t *testing.T) {
	spelt(t, of(500, 0, 0, 2), "cpu=500 ports=2", api.OK)
	spelt(t, api.Amounts{}, "none", api.OK)
	says(t, "ram=1  cpu=2", of(2, 1, 0, 0))
	faulty(t, "ram=01", api.ErrBad, 0)
	faulty(t, "ram=1 ram=2", api.ErrBad, 6)
	faulty(t, "cpu=1 x", api.ErrBad, 6)
}

// TestText has each choice of the four that are 0.
func TestText(t *testing.T) {
	spelt(t, of(1, 20, 300, 4000), "cpu=1 ram=20 disk=300 ports=4000", api.OK)
	spelt(t, all(most), "cpu=1099511627776 ram=1099511627776 disk=1099511627776 ports=1099511627776", api.OK)
	spelt(t, of(0, 7, 0, 0), "ram=7", api.OK)
	spelt(t, of(0, 0, 10, 0), "disk=10", api.OK)
	spelt(t, of(0, 1, 1, 0), "ram=1 disk=1", api.OK)
	for which := range 16 {
		a := of(11, 220, 3300, most)
		for kind := range 4 {
			if which>>kind&1 == 0 {
				a = with(a, kind, 0)
			}
		}
		spelt(t, a, spelling(a), api.OK)
		says(t, spelling(a), a)
	}
}

// TestParseInEachOrder has each order of the four, with a 0 among them or none, and blanks of several lengths between.
func TestParseInEachOrder(t *testing.T) {
	orders := 0
	for n := range 4 * 4 * 4 * 4 {
		order := []int{n & 3, n >> 2 & 3, n >> 4 & 3, n >> 6 & 3}
		if 1<<order[0]|1<<order[1]|1<<order[2]|1<<order[3] != 15 {
			continue
		}
		orders++
		parts := []string{"cpu=5", "ram=0", "disk=1099511627776", "ports=70"}
		for _, blanks := range []string{" ", "  ", "       "} {
			var l []string
			for _, kind := range order {
				l = append(l, parts[kind])
			}
			says(t, strings.Join(l, blanks), of(5, 0, most, 70))
			says(t, strings.Join(l[:3], blanks), with(of(5, 0, most, 70), order[3], 0))
			says(t, strings.Join(l[:2], blanks), with(with(of(5, 0, most, 70), order[3], 0), order[2], 0))
			says(t, l[0], one(order[0], []int64{5, 0, most, 70}[order[0]]))
			// Each of them a second time, behind all.
			for _, again := range parts {
				s := strings.Join(l, blanks) + blanks
				faulty(t, s+again, api.ErrBad, len(s))
			}
		}
	}
	if orders != 24 {
		t.Errorf("%d orders", orders)
	}
}

// TestParseOfBlanks has blanks at the ends, between parts, within parts, and alone.
func TestParseOfBlanks(t *testing.T) {
	faulty(t, "", api.ErrBad, 0)
	faulty(t, " ", api.ErrBad, 0)
	faulty(t, "    ", api.ErrBad, 0)
	faulty(t, " cpu=1", api.ErrBad, 0)
	faulty(t, "  cpu=1 ", api.ErrBad, 0)
	faulty(t, "cpu=1 ", api.ErrBad, 6)
	faulty(t, "cpu=1    ", api.ErrBad, 9)
	faulty(t, "cpu=1   ram=2  ", api.ErrBad, 15)
	faulty(t, "cpu =1", api.ErrBad, 0)
	faulty(t, "cpu= 1", api.ErrBad, 0)
	faulty(t, "ram=1  cpu =1", api.ErrBad, 7)
	faulty(t, "cpu=1 2", api.ErrBad, 6)
	long := strings.Repeat(" ", 1<<20)
	says(t, "cpu=1"+long+"ram=2", of(1, 2, 0, 0))
	faulty(t, "cpu=1"+long, api.ErrBad, 5+1<<20)
	faulty(t, long+"cpu=1", api.ErrBad, 0)
	faulty(t, "cpu=1"+long+"x", api.ErrBad, 5+1<<20)
}

// TestParseOfNone has none alone, and with something beside it.
func TestParseOfNone(t *testing.T) {
	says(t, "none", api.Amounts{})
	for _, s := range []string{"none cpu=1", "none none", "none ", " none", "none  ", "none=0", "none=", "None", "NONE", "nonesuch", "non", "none,", "\"none\"", "none x", "none\n", "none cpu=1099511627777"} {
		faulty(t, s, api.ErrBad, 0)
	}
	faulty(t, "cpu=1 none", api.ErrBad, 6)
	faulty(t, "cpu=0  none", api.ErrBad, 7)
	faulty(t, "cpu=0 ram=0 disk=0 ports=0 none", api.ErrBad, 27)
}

// TestParseOfZeros has a 0, and needless zeros ahead.
func TestParseOfZeros(t *testing.T) {
	says(t, "cpu=0", api.Amounts{})
	says(t, "cpu=0 ram=0 disk=0 ports=0", api.Amounts{})
	says(t, "disk=0 cpu=10", of(10, 0, 0, 0))
	for _, name := range []string{"cpu", "ram", "disk", "ports"} {
		for _, digits := range []string{"00", "01", "000", "010", "0000000000000000000000001", "01099511627777", "0x1", "0.", "0 "} {
			at := 0
			if strings.HasSuffix(digits, " ") {
				at = len(name) + 3
			}
			faulty(t, name+"="+digits, api.ErrBad, at)
		}
	}
	faulty(t, "ports=1 cpu=00", api.ErrBad, 8)
}

// TestParseOfGreatNumbers has numbers that are just MaxAmount, one above it, and of many digits.
func TestParseOfGreatNumbers(t *testing.T) {
	for kind, name := range []string{"cpu=", "ram=", "disk=", "ports="} {
		for _, n := range []int64{1, 9, 10, 99, 1099511627769, 1099511627770, most - 1, most} {
			says(t, name+strconv.FormatInt(n, 10), one(kind, n))
		}
		for _, digits := range []string{"1099511627777", "1099511627778", "1099511627779", "1099511627780", "1099511627790", "1099511628000", "1999999999999", "2000000000000", "9999999999999", "10000000000000", "10995116277760", "9223372036854775807", "9223372036854775808", "9223372036854775809", "18446744073709551615", "18446744073709551616", "18446744073709551617", "1" + strings.Repeat("0", 63), "36893488147419103232", strings.Repeat("9", 1<<20)} {
			faulty(t, name+digits, api.ErrOver, 0)
			other := "ram=5  "
			if kind == 1 {
				other = "disk=5 "
			}
			faulty(t, other+name+digits, api.ErrOver, 7)
			faulty(t, name+digits+" "+other, api.ErrOver, 0)
			faulty(t, name+digits+"x", api.ErrBad, 0)
			faulty(t, name+"0"+digits, api.ErrBad, 0)
		}
	}
}

// TestParseOfNoParts has names that are unknown, or written otherwise, parts without = or digits, and other bytes.
func TestParseOfNoParts(t *testing.T) {
	for _, s := range []string{"x", "cpu", "cpu=", "=", "=1", "==", "cpu==1", "cpu=1=", "cpu=1=1", "CPU=1", "Cpu=1", "cpus=1", "cp=1", "c=1", "port=1", "Ports=1", "disc=1", "mem=1", "gpu=1", "ram:1", "ram1", "1=ram", "1",
		"cpu=-1", "cpu=+1", "cpu=-0", "cpu=+0", "cpu=1.0", "cpu=1e3", "cpu=1_000", "cpu=1,000", "cpu=0x1", "cpu=0b1", "cpu=a", "cpu=1a", "cpu=a1", "cpu=one", "cpu=\"1\"", "\"cpu=1\"", "cpu=1,", "cpu=1;",
		"cpu=1\tram=1", "\tcpu=1", "cpu=1\t", "cpu=1\n", "cpu=1\nram=1", "\ncpu=1", "cpu=1\r", "cpu=1\x00", "\x00cpu=1", "cpu\x00=1", "cpu=\x001", "cpu=1\v", "cpu=1\f", "cpu=1\u00a0ram=1", "\u00a0", "\t",
		"cpu=/", "cpu=:", "cpu=1/", "cpu=1:", "cpu=\xb1", "cpu=\u0661", "cpu=\uff11", "\uff43pu=1", "\xff", "cpu=1\xff"} {
		faulty(t, s, api.ErrBad, 0)
		faulty(t, s+" ram=2", api.ErrBad, 0)
		faulty(t, s+"  ram=1099511627777", api.ErrBad, 0)
		faulty(t, "disk=3 "+s, api.ErrBad, 7)
		faulty(t, "disk=3   "+s+" ", api.ErrBad, 9)
	}
	for c := range 256 {
		s := "cpu=1" + string([]byte{byte(c)})
		switch {
		case c >= '0' && c <= '9':
			says(t, s, of(int64(10+c-'0'), 0, 0, 0))
		case c == ' ':
			faulty(t, s, api.ErrBad, 6)
		default:
			faulty(t, s, api.ErrBad, 0)
			faulty(t, "cpu="+s[5:], api.ErrBad, 0)
			faulty(t, s[5:]+"cpu=1", api.ErrBad, 0)
		}
	}
}

// TestParseOfMoreFaults has texts with more than one fault: the first one is told.
func TestParseOfMoreFaults(t *testing.T) {
	faulty(t, "cpu=1099511627777 x", api.ErrOver, 0)
	faulty(t, "cpu=1099511627777 cpu=1", api.ErrOver, 0)
	faulty(t, "cpu=1099511627777 ", api.ErrOver, 0)
	faulty(t, "cpu=1099511627777 ram=1099511627777", api.ErrOver, 0)
	faulty(t, "ram=1 cpu=1099511627777   none", api.ErrOver, 6)
	faulty(t, "x cpu=1099511627777", api.ErrBad, 0)
	faulty(t, " cpu=1099511627777", api.ErrBad, 0)
	faulty(t, "cpu=1 x y", api.ErrBad, 6)
	faulty(t, "cpu=1 cpu=2 ram=1099511627777", api.ErrBad, 6)
	faulty(t, "cpu=1 ram=x ram=y", api.ErrBad, 6)
	faulty(t, "x cpu=1 ", api.ErrBad, 0)
	// A part that stands twice is none, whatever its number.
	faulty(t, "cpu=1 cpu=1099511627777", api.ErrBad, 6)
	faulty(t, "cpu=1 cpu=1", api.ErrBad, 6)
	faulty(t, "cpu=0 cpu=0", api.ErrBad, 6)
	faulty(t, "cpu=0 ram=1 cpu=01", api.ErrBad, 12)
}

// TestParseByPieces parses all texts of few parts with blanks between them, or none, against the model.
func TestParseByPieces(t *testing.T) {
	parts := []string{"", "cpu=1", "ram=20", "disk=0", "ports=1099511627776", "cpu=1099511627777", "none", "ram=", "x"}
	blanks := []string{" ", "", "   ", "\t", "\n"}
	var good, bad, over int
	for n := range 9 * 5 * 9 * 5 * 9 * 5 {
		var b strings.Builder
		for range 3 {
			b.WriteString(parts[n%9])
			n /= 9
			if n > 0 {
				b.WriteString(blanks[n%5])
			}
			n /= 5
		}
		s := b.String()
		want, fault := parsing(s)
		a, f := resource.Parse(s)
		if a != want || f != fault {
			t.Fatalf("Parse(%q): %v, %v, not %v, %v", s, a, f, want, fault)
		}
		switch f.Err {
		case api.OK:
			good++
		case api.ErrBad:
			bad++
		case api.ErrOver:
			over++
		}
	}
	if good < 500 || bad < 1000 || over < 1000 {
		t.Errorf("%d are texts, %d bad, %d over", good, bad, over)
	}
}
