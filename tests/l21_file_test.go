package tests

import (
	"hash/crc32"
	"math"
	"math/rand/v2"
	"regexp"
	"slices"
	"strconv"
	"strings"
	"testing"

	"loop.example/waymark/impl"
)

// over is the event that an incident has ended.
func over(id int) impl.Event {
	return impl.Event{Over: true, News: impl.News{Id: id}}
}

// told is the event that there is an incident.
func told(id int, arc int, more int) impl.Event {
	return impl.Event{News: impl.News{Id: id, Arc: arc, More: more}}
}

// validEvents are all events of some Ids, the limits among them.
func validEvents() []impl.Event {
	var list []impl.Event
	for _, id := range []int{1, 2, 9, 10, 99, 100, 505, impl.NewsIdMax - 1, impl.NewsIdMax} {
		list = append(list, over(id))
		for arc := range impl.ArcsMax {
			for more := -1; more <= impl.CostMax; more++ {
				list = append(list, told(id, arc, more))
			}
		}
	}
	return list
}

// invalidEvents are events that break one rule each.
func invalidEvents() map[string]impl.Event {
	events := map[string]impl.Event{
		"over with an Arc":             {Over: true, News: impl.News{Id: 5, Arc: 1}},
		"over with a negative Arc":     {Over: true, News: impl.News{Id: 5, Arc: -1}},
		"over with a More":             {Over: true, News: impl.News{Id: 5, More: 1}},
		"over of what is closed":       {Over: true, News: impl.News{Id: 5, More: -1}},
		"over with an Arc and a More":  {Over: true, News: impl.News{Id: 5, Arc: 3, More: 7}},
		"over with the largest values": {Over: true, News: impl.News{Id: 5, Arc: math.MaxInt, More: math.MaxInt}},
	}
	for name, w := range invalidNews(impl.ArcsMax) {
		events[name] = impl.Event{News: w}
		events["over, "+name] = impl.Event{Over: true, News: w}
	}
	return events
}

// eventPattern matches the encodings of valid events and nothing else.
var eventPattern = regexp.MustCompile(`\A(over [1-9][0-9]{0,2}|shut [1-9][0-9]{0,2} ([0-9]|1[0-5])|more [1-9][0-9]{0,2} ([0-9]|1[0-5]) ([0-9]|[1-9][0-9]))\z`)

// noEvents are strings that encode no event.
func noEvents() []string {
	return []string{
		"", " ", "\n", "over", "shut", "more", "over ", "shut 7", "more 7", "more 7 1", "over 7 1", "shut 7 1 1", "more 7 1 1 1",
		"over 0", "over 1000", "shut 0 1", "shut 1000 1", "more 0 1 1", "more 1000 1 1", "over 99999999999999999999", "more 7 1 99999999999999999999",
		"shut 7 16", "more 7 16 1", "more 7 1 100", "shut 7 -1", "more 7 -1 1", "over -7", "shut -7 1", "more -7 1 1",
		"more 7 1 -1", "more 7 1 -2", "shut 7 1 -1",
		"over 07", "over 007", "shut 07 1", "shut 7 01", "shut 7 00", "more 07 1 1", "more 7 01 1", "more 7 1 01", "more 7 1 00",
		"over +7", "shut +7 1", "shut 7 +1", "more 7 1 +1", "more 7 1 -0", "more 7 -0 1",
		"over  7", "shut  7 1", "shut 7  1", "more 7 1  1", "more 7  1 1", " over 7", "over 7 ", "shut 7 1 ", "more 7 1 1 ", " more 7 1 1",
		"over 7\n", "shut 7 1\n", "more 7 1 1\n", "\nover 7", "over\n7", "over 7\r", "over\t7", "over 7\x00", "over 7x", "over x", "over 7.0", "over 1e2", "over 0x7", "over 1_0",
		"Over 7", "OVER 7", "ove 7", "overs 7", "shot 7 1", "More 7 1 1", "tell 7 1 1", "7", "over7", "over,7", "near 7 1", "over ７",
		"0 over 7", "over 7 over 7", strings.Repeat("over 7 ", 1000), "more" + strings.Repeat(" 1", 5000),
	}
}

// checkNoEvent expects that a string encodes no event.
func checkNoEvent(t *testing.T, s string) {
	t.Helper()
	if e, ok := impl.EventGet(s); ok || e != (impl.Event{}) {
		t.Errorf("EventGet(%q) is %v %v", s, e, ok)
	}
}

// record is a checksum and a text as a line.
func record(sum string, text string) string {
	return sum + " " + text + "\n"
}

// sumOfText is the decimal checksum of a text.
func sumOfText(text string) string {
	return strconv.FormatUint(uint64(crc32.ChecksumIEEE([]byte(text))), 10)
}

// textByHand is how the document writes a valid event.
func textByHand(e impl.Event) string {
	words := []string{"more", strconv.Itoa(e.News.Id), strconv.Itoa(e.News.Arc), strconv.Itoa(e.News.More)}
	if e.Over {
		words = []string{"over", words[1]}
	} else if e.News.More == -1 {
		words = []string{"shut", words[1], words[2]}
	}
	return strings.Join(words, " ")
}

// recordOf is the record of a valid event.
func recordOf(e impl.Event) string {
	text := textByHand(e)
	return record(sumOfText(text), text)
}

// recordsOf are the records of valid events, one after the other, whether they can be performed or not.
func recordsOf(events ...impl.Event) string {
	j := ""
	for _, e := range events {
		j += recordOf(e)
	}
	return j
}

// someEvent is an event that may be possible in n: one of few Ids, so that incidents are replaced and end.
func someEvent(r *rand.Rand, n impl.Net) impl.Event {
	id := 1 + r.IntN(9)
	if len(n.Arcs) == 0 || r.IntN(3) == 0 {
		return over(id)
	}
	return told(id, r.IntN(len(n.Arcs)), r.IntN(impl.CostMax+2)-1)
}

// someJournal is a journal with the records of up to so many possible events, and what it leads to.
func someJournal(r *rand.Rand, n impl.Net, many int) (string, impl.Live) {
	j, l := "", impl.Live{Net: n}
	for range many {
		e := someEvent(r, n)
		next, ok := impl.LiveDo(l, e)
		if ok && len(j)+len(recordOf(e)) <= impl.JourMax {
			j, l = j+recordOf(e), next
		}
	}
	return j, l
}

// readByHand is a journal read line by line as the document says.
func readByHand(n impl.Net, j string) (impl.Live, int) {
	l, read := impl.Live{Net: n}, 0
	for _, line := range strings.SplitAfter(j, "\n") {
		sum, text, _ := strings.Cut(strings.TrimSuffix(line, "\n"), " ")
		if !strings.HasSuffix(line, "\n") || sum != sumOfText(text) || !eventPattern.MatchString(text) {
			return l, read
		}
		e, _ := impl.EventGet(text)
		next, ok := impl.LiveDo(l, e)
		if !ok {
			return l, read
		}
		l, read = next, read+len(line)
	}
	return l, read
}

// checkRead expects the incidents after a journal, and how many bytes are read.
func checkRead(t *testing.T, n impl.Net, j string, read int, want ...impl.News) {
	t.Helper()
	l, many := impl.JourRead(n, j)
	if many != read || !sameLive(l, impl.Live{Net: n, News: want}) {
		t.Errorf("JourRead(%q) is %v %d, not %v %d", j, l, many, want, read)
	}
}

// checkAdd expects that an event is appended.
func checkAdd(t *testing.T, n impl.Net, j string, e impl.Event) string {
	t.Helper()
	longer, ok := impl.JourAdd(n, j, e)
	if !ok || longer != j+recordOf(e) {
		t.Errorf("JourAdd(%q, %v) is %q %v", j, e, longer, ok)
	}
	return longer
}

// checkNoAdd expects that an event is not appended, nor a part of it.
func checkNoAdd(t *testing.T, n impl.Net, j string, e impl.Event) {
	t.Helper()
	if got, ok := impl.JourAdd(n, j, e); ok || got != j {
		t.Errorf("JourAdd(%q, %v) is %q %v", j, e, got, ok)
	}
	for _, bytes := range []int{math.MinInt, -1, 0, 1, 10, 2000, math.MaxInt} {
		if got := impl.JourTear(n, j, e, bytes); got != j {
			t.Errorf("JourTear(%q, %v, %d) is %q", j, e, bytes, got)
		}
	}
}

// ofSize is an event in example whose record has so many bytes.
func ofSize(t *testing.T, bytes int) impl.Event {
	t.Helper()
	for arc := range example().Arcs {
		for more := range impl.CostMax + 1 {
			if e := told(1, arc, more); len(recordOf(e)) == bytes {
				return e
			}
		}
	}
	t.Fatal("no record has", bytes, "bytes")
	return impl.Event{}
}

// journalOf is a journal for example with exactly so many bytes, at least 1000, all of which can be read.
func journalOf(t *testing.T, bytes int) string {
	t.Helper()
	j := ""
	for id := 1; id <= impl.NewsMax; id++ {
		j += recordOf(told(id, 3, 17))
	}
	rest := bytes - len(j)
	short, long := recordOf(ofSize(t, 22)), recordOf(ofSize(t, 23))
	return j + strings.Repeat(short, rest/22-rest%22) + strings.Repeat(long, rest%22)
}

// P87
func TestCrcIsCrc32(t *testing.T) {
	for text, want := range map[string]int{
		"123456789": 3421780262, "": 0, "a": 0xE8B7BE43, "abc": 0x352441C2, "\x00": 0xD202EF8D, "\xff": 0xFF000000, "\x00\x00\x00\x00": 0x2144DF1C, "\xff\xff\xff\xff": 0xFFFFFFFF,
		"The quick brown fox jumps over the lazy dog": 0x414FA339,
	} {
		if got := impl.Crc(text); got != want {
			t.Errorf("Crc(%q) is %d, not %d", text, got, want)
		}
	}
	r := source()
	for length := range 600 {
		text := make([]byte, length)
		for i := range text {
			text[i] = byte(r.IntN(256))
		}
		if got := impl.Crc(string(text)); got != int(crc32.ChecksumIEEE(text)) {
			t.Fatalf("Crc(%q) is %d", text, got)
		}
	}
}

// P87
func TestFlippingABitChangesTheChecksum(t *testing.T) {
	texts := []string{"123456789", "\x00\x00\x00\x00\x00", "\xff\xff\xff\xff", strings.Repeat("over 7\n", 200)}
	for i, e := range validEvents() {
		if i%40 == 0 {
			texts = append(texts, impl.EventPut(e))
		}
	}
	for _, text := range texts {
		sum := impl.Crc(text)
		for bit := range 8 * len(text) {
			flipped := []byte(text)
			flipped[bit/8] ^= 1 << (bit % 8)
			if impl.Crc(string(flipped)) == sum {
				t.Errorf("Crc(%q) is that of %q", flipped, text)
			}
		}
	}
}

func TestEventExamples(t *testing.T) {
	for text, e := range map[string]impl.Event{
		"over 7": over(7), "over 1": over(1), "over 999": over(impl.NewsIdMax),
		"shut 7 1": told(7, 1, -1), "shut 1 0": told(1, 0, -1), "shut 999 15": told(impl.NewsIdMax, impl.ArcsMax-1, -1),
		"more 2 5 99": told(2, 5, 99), "more 1 0 0": told(1, 0, 0), "more 999 15 99": told(impl.NewsIdMax, impl.ArcsMax-1, impl.CostMax),
	} {
		if got := impl.EventPut(e); got != text {
			t.Errorf("EventPut(%v) is %q, not %q", e, got, text)
		}
		if got, ok := impl.EventGet(text); !ok || got != e {
			t.Errorf("EventGet(%q) is %v %v, not %v", text, got, ok, e)
		}
	}
}

func TestInvalidEvents(t *testing.T) {
	for name, e := range invalidEvents() {
		if impl.EventOk(e) {
			t.Error(name+": EventOk is true for", e)
		}
		if got := impl.EventPut(e); got != "" {
			t.Errorf("%s: EventPut(%v) is %q", name, e, got)
		}
	}
}

// P88
func TestDecodingAnEventInvertsEncoding(t *testing.T) {
	for _, e := range validEvents() {
		text := impl.EventPut(e)
		got, ok := impl.EventGet(text)
		if !impl.EventOk(e) || text != textByHand(e) || !ok || got != e {
			t.Fatalf("%v is valid: %v, encoded: %q, decoded: %v %v", e, impl.EventOk(e), text, got, ok)
		}
	}
	for id := 1; id <= impl.NewsIdMax; id++ {
		if got, ok := impl.EventGet(impl.EventPut(over(id))); !ok || got != over(id) {
			t.Error("the end of", id, "is decoded as", got, ok)
		}
	}
}

// P89
func TestStringsThatAreNoEvents(t *testing.T) {
	for _, s := range noEvents() {
		if eventPattern.MatchString(s) {
			t.Errorf("%q is an event", s)
		}
		checkNoEvent(t, s)
	}
}

// P89
func TestEncodingOfEventsIsCanonical(t *testing.T) {
	accepted, rejected := 0, 0
	check := func(s string) {
		e, ok := impl.EventGet(s)
		if ok != eventPattern.MatchString(s) || ok && (impl.EventPut(e) != s || !impl.EventOk(e)) || !ok && e != (impl.Event{}) {
			t.Errorf("EventGet(%q) is %v %v", s, e, ok)
		}
		if ok {
			accepted++
		} else {
			rejected++
		}
	}
	for i, e := range validEvents() {
		if i%7 != 0 && !e.Over {
			continue
		}
		text := textByHand(e)
		for at := range len(text) + 1 {
			check(text[:at])
			check(text[at:])
			for _, letter := range "0159 +-\nsm" {
				check(text[:at] + string(letter) + text[at:])
				if at < len(text) {
					check(text[:at] + string(letter) + text[at+1:])
					check(text[:at] + text[at+1:])
				}
			}
		}
	}
	if accepted < 10000 || rejected < 10000 {
		t.Error("only", accepted, "are events and", rejected, "are none")
	}
}

// P90
func TestEventsReportAndEndIncidents(t *testing.T) {
	r := source()
	events := []impl.Event{over(1), over(2), over(impl.NewsIdMax), told(1, 0, -1), told(4, 1, 3), told(impl.NewsIdMax, impl.ArcsMax-1, 0)}
	done, refused := 0, 0
	eachLive(t, func(t *testing.T, l impl.Live) {
		list := append(slices.Clone(events), someEvent(r, l.Net), someEvent(r, l.Net))
		for _, w := range l.News {
			list = append(list, over(w.Id), told(w.Id, 0, 7))
		}
		for _, e := range list {
			want, wantOk := impl.LiveTell(l, e.News)
			if e.Over {
				want, wantOk = impl.LiveOver(l, e.News.Id)
			}
			got, ok := impl.LiveDo(l, e)
			if ok != wantOk || !sameLive(got, want) || !ok && !sameLive(got, l) || !impl.LiveOk(got) {
				t.Error("LiveDo of", e, "is", got, ok)
			}
			if ok {
				done++
			} else {
				refused++
			}
		}
	})
	if done < 1000 || refused < 1000 {
		t.Error("only", done, "events are performed and", refused, "refused")
	}
}

// P90
func TestInvalidEventsChangeNothing(t *testing.T) {
	r := source()
	for _, n := range []impl.Net{example(), twins(), largest(), {Nodes: 1}} {
		lives := append(someLives(r, n), impl.Live{Net: n})
		if len(n.Arcs) > 0 {
			lives = append(lives, impl.Live{Net: n, News: []impl.News{{Id: 5, Arc: 1, More: -1}}})
		}
		for name, e := range invalidEvents() {
			for _, l := range lives {
				if got, ok := impl.LiveDo(l, e); ok || !sameLive(got, l) {
					t.Error(name+": LiveDo of", e, "in", l, "is", got, ok)
				}
			}
		}
	}
}

// P90
func TestEventsInInvalidLives(t *testing.T) {
	for name, l := range invalidLives() {
		events := []impl.Event{over(3), over(1), told(3, 0, 1), told(5, 1, -1)}
		for _, e := range invalidEvents() {
			events = append(events, e)
		}
		for _, e := range events {
			if got, ok := impl.LiveDo(l, e); ok || !sameLive(got, impl.Live{}) {
				t.Error(name+": LiveDo of", e, "is", got, ok)
			}
		}
	}
}

func TestJournalExample(t *testing.T) {
	n := example()
	checkRead(t, n, "", 0)
	j := checkAdd(t, n, "", told(7, 1, -1))
	shut := impl.News{Id: 7, Arc: 1, More: -1}
	checkRead(t, n, j, len(j), shut)
	j = checkAdd(t, n, j, told(3, 3, 4))
	checkRead(t, n, j, len(j), impl.News{Id: 3, Arc: 3, More: 4}, shut)
	j = checkAdd(t, n, j, told(3, 2, 5))
	checkRead(t, n, j, len(j), impl.News{Id: 3, Arc: 2, More: 5}, shut)
	j = checkAdd(t, n, j, over(7))
	checkRead(t, n, j, len(j), impl.News{Id: 3, Arc: 2, More: 5})
	j = checkAdd(t, n, j, over(3))
	checkRead(t, n, j, len(j))
	// The numbers are those of another program for CRC-32.
	want := "3981830486 shut 7 1\n2695938028 more 3 3 4\n3598050637 more 3 2 5\n1212560353 over 7\n1328281592 over 3\n"
	if j != want {
		t.Errorf("the journal is %q", j)
	}
}

// P91
func TestAppendedEventIsPerformed(t *testing.T) {
	r := source()
	added, refused := 0, 0
	eachNet(t, func(t *testing.T, n impl.Net) {
		j, _ := someJournal(r, n, r.IntN(12))
		for range 10 {
			e := someEvent(r, n)
			old, _ := impl.JourRead(n, j)
			want, possible := impl.LiveDo(old, e)
			longer, ok := impl.JourAdd(n, j, e)
			if ok != possible {
				t.Errorf("JourAdd(%q, %v) is %v", j, e, ok)
			}
			if !ok {
				refused++
				checkNoAdd(t, n, j, e)
				continue
			}
			added++
			if l, read := impl.JourRead(n, longer); longer != j+recordOf(e) || read != len(longer) || !sameLive(l, want) {
				t.Errorf("JourRead(%q) is %v %d, not %v", longer, l, read, want)
			}
			j = longer
		}
	})
	if added < 1000 || refused < 1000 {
		t.Error("only", added, "events are added and", refused, "refused")
	}
}

// P92
func TestTornRecordIsIgnored(t *testing.T) {
	r := source()
	torn := 0
	eachNet(t, func(t *testing.T, n impl.Net) {
		j, old := someJournal(r, n, r.IntN(8))
		e := someEvent(r, n)
		longer, ok := impl.JourAdd(n, j, e)
		if !ok {
			return
		}
		torn++
		size := len(longer) - len(j)
		next, _ := impl.LiveDo(old, e)
		for _, bytes := range append(upTo(size+3), -1, -2, -size, size+100, impl.JourMax, math.MinInt, math.MaxInt) {
			got := impl.JourTear(n, j, e, bytes)
			if got != longer[:len(j)+min(max(bytes, 0), size)] {
				t.Errorf("JourTear(%q, %v, %d) is %q", j, e, bytes, got)
			}
			if bytes >= size {
				checkRead(t, n, got, len(longer), next.News...)
			} else {
				checkRead(t, n, got, len(j), old.News...)
			}
			if bytes > 0 && bytes < size {
				// Behind half a record nothing is found.
				checkNoAdd(t, n, got, e)
				checkRead(t, n, got+recordOf(over(1)), len(j), old.News...)
			}
		}
	})
	if torn < 100 {
		t.Error("only", torn, "records are torn")
	}
}

// damaged are journals that go wrong somewhere, made of one that is right.
func damaged(r *rand.Rand, j string) []string {
	list := []string{j, "x" + j, j + "x", j + "\n", "\n" + j, " " + j}
	for range 10 {
		at := r.IntN(len(j) + 1)
		letter := string("0123456789 \nx"[r.IntN(13)])
		list = append(list, j[:at], j[at:], j[:at]+letter+j[at:])
		if at < len(j) {
			flipped := []byte(j)
			flipped[at] ^= 1 << r.IntN(8)
			list = append(list, j[:at]+j[at+1:], j[:at]+letter+j[at+1:], string(flipped))
		}
	}
	return list
}

// P93
func TestReadingAJournalIsStable(t *testing.T) {
	r := source()
	whole, parts := 0, 0
	eachNet(t, func(t *testing.T, n impl.Net) {
		j, _ := someJournal(r, n, r.IntN(15))
		for _, j := range damaged(r, j) {
			l, read := impl.JourRead(n, j)
			want, wantRead := readByHand(n, j)
			if read != wantRead || !sameLive(l, want) || !impl.LiveOk(l) {
				t.Errorf("JourRead(%q) is %v %d, not %v %d", j, l, read, want, wantRead)
			}
			checkRead(t, n, j[:read], read, l.News...)
			checkRead(t, n, j[:read]+"x", read, l.News...)
			if read == len(j) {
				whole++
				continue
			}
			checkNoAdd(t, n, j, over(1))
			if read > 0 {
				parts++
			}
		}
	})
	if whole < 1000 || parts < 1000 {
		t.Error("only", whole, "journals are read as a whole and", parts, "in part")
	}
}

// What is whole, but cannot happen, ends the journal before it.
func TestWholeRecordsThatCannotBePerformed(t *testing.T) {
	n := example()
	good := told(7, 1, -1)
	for name, bad := range map[string]impl.Event{
		"nothing has that Id":       over(3),
		"no arc of this graph":      told(3, len(n.Arcs), -1),
		"no arc that could cost":    told(3, impl.ArcsMax-1, 5),
		"no arc, but a known Id":    told(7, len(n.Arcs), 1),
		"the largest Id is not one": over(impl.NewsIdMax),
	} {
		t.Run(name, func(t *testing.T) {
			before := recordOf(good)
			checkRead(t, n, before+recordOf(bad), len(before), good.News)
			checkRead(t, n, before+recordsOf(bad, over(7), told(1, 0, 1)), len(before), good.News)
			checkRead(t, n, recordsOf(bad, good), 0)
			checkNoAdd(t, n, before, bad)
			checkNoAdd(t, n, "", bad)
			// Nor can anything be appended behind it.
			checkNoAdd(t, n, before+recordOf(bad), over(7))
			checkNoAdd(t, n, recordOf(bad), good)
		})
	}
	// What has ended cannot end again.
	j := recordsOf(good, over(7))
	checkRead(t, n, j+recordOf(over(7)), len(j))
	checkNoAdd(t, n, j, over(7))
	// Where there are no arcs nothing happens to them.
	checkRead(t, impl.Net{Nodes: 2}, recordOf(told(1, 0, -1)), 0)
	checkNoAdd(t, impl.Net{Nodes: 2}, "", told(1, 0, -1))
}

func TestJournalWithTooManyIncidents(t *testing.T) {
	n := largest()
	j := ""
	var news []impl.News
	for id := 1; id <= impl.NewsMax; id++ {
		j = checkAdd(t, n, j, told(id, id, id))
		news = append(news, impl.News{Id: id, Arc: id, More: id})
	}
	checkRead(t, n, j, len(j), news...)
	checkRead(t, n, j+recordOf(told(7, 0, 1)), len(j), news...)
	checkNoAdd(t, n, j, told(7, 0, 1))
	checkNoAdd(t, n, j, told(impl.NewsIdMax, impl.ArcsMax-1, -1))
	// One can be replaced, or make room for another one.
	replaced := checkAdd(t, n, j, told(6, 0, -1))
	checkRead(t, n, replaced, len(replaced), append(slices.Clone(news[:5]), impl.News{Id: 6, More: -1})...)
	other := checkAdd(t, n, checkAdd(t, n, j, over(1)), told(impl.NewsIdMax, impl.ArcsMax-1, -1))
	checkRead(t, n, other, len(other), append(slices.Clone(news[1:]), impl.News{Id: impl.NewsIdMax, Arc: impl.ArcsMax - 1, More: -1})...)
}

// incorrect are lines that are no record, though an event in example would be possible.
func incorrect() map[string]string {
	text := "shut 7 1"
	sum := sumOfText(text)
	number, _ := strconv.Atoi(sum)
	list := map[string]string{
		"wrong checksum":               record(sumOfText("shut 7 2"), text),
		"checksum one too large":       record(strconv.Itoa(number+1), text),
		"checksum one too small":       record(strconv.Itoa(number-1), text),
		"checksum 0":                   record("0", text),
		"checksum with a leading zero": record("0"+sum, text),
		"checksum with a plus":         record("+"+sum, text),
		"negative checksum":            record("-"+sum, text),
		"checksum as signed number":    record(strconv.Itoa(number-1<<32), text),
		"checksum with a 33rd bit":     record(strconv.Itoa(number+1<<32), text),
		"checksum in base 16":          record(strconv.FormatInt(int64(number), 16), text),
		"checksum with a letter":       record(sum+"x", text),
		"cut checksum":                 record(sum[1:], text),
		"no checksum":                  record("", text),
		"no checksum and no space":     text + "\n",
		"checksum alone":               sum + "\n",
		"checksum and a space":         record(sum, ""),
		"no space":                     sum + text + "\n",
		"two spaces":                   record(sum, " "+text),
		"a space at the end":           record(sum, text+" "),
		"a space at the beginning":     record(" "+sum, text),
		"a carriage return":            record(sum, text+"\r"),
		"a letter at the end":          record(sum, text+"x"),
		"nothing":                      "\n",
		"checksum of nothing":          record("0", ""),
		"checksum behind the event":    text + " " + sum + "\n",
		"the newline is missing":       sum + " " + text,
		"another byte for the newline": sum + " " + text + "\x00",
	}
	for _, other := range noEvents() {
		if len(other) < 100 {
			list["right checksum of "+strconv.Quote(other)] = record(sumOfText(other), other)
		}
	}
	return list
}

func TestIncorrectRecords(t *testing.T) {
	n := example()
	before := recordsOf(told(1, 0, 3), told(2, 3, -1))
	news := []impl.News{{Id: 1, More: 3}, {Id: 2, Arc: 3, More: -1}}
	for name, line := range incorrect() {
		t.Run(name, func(t *testing.T) {
			checkRead(t, n, line, 0)
			checkRead(t, n, before+line, len(before), news...)
			checkRead(t, n, before+line+recordOf(over(1)), len(before), news...)
			checkNoAdd(t, n, line, told(1, 0, 3))
			checkNoAdd(t, n, before+line, over(1))
		})
	}
}

func TestInvalidEventsAreNotAppended(t *testing.T) {
	for _, j := range []string{"", recordOf(told(5, 1, -1)), recordsOf(told(5, 1, 3), told(1, 0, 0))} {
		for _, e := range invalidEvents() {
			checkNoAdd(t, example(), j, e)
			checkNoAdd(t, largest(), j, e)
		}
	}
}

func TestLongestJournal(t *testing.T) {
	n := example()
	for _, bytes := range []int{impl.JourMax - 1, impl.JourMax} {
		j := journalOf(t, bytes)
		l, read := impl.JourRead(n, j)
		if want, _ := readByHand(n, j); read != bytes || !sameLive(l, want) || len(l.News) != impl.NewsMax {
			t.Error("of", bytes, "bytes", read, "are read to", l)
		}
		checkNoAdd(t, n, j, over(1))
	}
	// One byte more is too long, whatever stands there.
	for _, j := range []string{journalOf(t, impl.JourMax+1), journalOf(t, impl.JourMax) + "x", strings.Repeat("x", impl.JourMax+1), strings.Repeat("\n", 100000)} {
		if l, read := impl.JourRead(n, j); read != 0 || !sameLive(l, impl.Live{}) {
			t.Error(len(j), "bytes are read to", l, read)
		}
		checkNoAdd(t, n, j, over(1))
		checkNoAdd(t, n, j, told(1, 0, 1))
	}
	checkRead(t, n, strings.Repeat("x", impl.JourMax), 0)
	// Before the limit there is room for what is no record.
	j := journalOf(t, impl.JourMax-1)
	l, _ := impl.JourRead(n, j)
	checkRead(t, n, j+"x", len(j), l.News...)
}

func TestAppendingUpToTheLimit(t *testing.T) {
	n := example()
	e := told(1, 4, 50)
	size := len(recordOf(e))
	j := checkAdd(t, n, journalOf(t, impl.JourMax-size), e)
	if len(j) != impl.JourMax {
		t.Fatal("the journal has", len(j), "bytes")
	}
	for _, bytes := range []int{1, size - 1, size, size + 1} {
		checkNoAdd(t, n, j, e)
		full := journalOf(t, impl.JourMax-size)
		if got := impl.JourTear(n, full, e, bytes); got != j[:len(full)+min(bytes, size)] {
			t.Errorf("JourTear of %d bytes is %q", bytes, got)
		}
	}
	checkNoAdd(t, n, journalOf(t, impl.JourMax-size+1), e)
	checkAdd(t, n, journalOf(t, impl.JourMax-size-1), e)
}

func TestJournalsInInvalidNets(t *testing.T) {
	eachInvalidNet(t, func(t *testing.T, n impl.Net) {
		for _, j := range []string{"", "x", recordOf(told(1, 0, 1)), recordsOf(told(1, 0, 1), over(1)), strings.Repeat("x", impl.JourMax+1)} {
			if l, read := impl.JourRead(n, j); read != 0 || !sameLive(l, impl.Live{}) {
				t.Errorf("JourRead(%q) is %v %d", j, l, read)
			}
			for _, e := range []impl.Event{told(2, 0, -1), over(1), {}} {
				checkNoAdd(t, n, j, e)
			}
		}
	})
}
