package tests

import (
	"math/rand"
	"slices"
	"strconv"
	"strings"
	"testing"
	"unsafe"

	"loop.example/kilntree/impl"
)

// plainFrame is one frame as the document says it.
func plainFrame(payload string, width int) string {
	return plainText(payload) + plainSum(payload, width)
}

// What can be at the front of a text.
const (
	frontWaits = iota
	frontWhole
	frontWrong
)

// frameHeads has the short number of each payload's bytes.
var frameHeads = func() []string {
	heads := []string{}
	for n := range 1001 {
		heads = append(heads, plainShort(uint64(n)))
	}
	return heads
}()

// frameFront holds the front of a text against each short number of 1 to 1000
// in turn; with a whole frame it gives its payload and its size.
func frameFront(s string, width int) (int, string, int) {
	found := frontWrong
	for n := 1; n <= 1000; n++ {
		head := frameHeads[n]
		size := len(head) + n + width
		switch {
		case len(s) < len(head) && strings.HasPrefix(head, s):
			found = frontWaits
		case !strings.HasPrefix(s, head):
		case len(s) < size:
			return frontWaits, "", 0
		case s[len(head)+n:size] == plainSum(s[len(head):len(head)+n], width):
			return frontWhole, s[len(head) : len(head)+n], size
		default:
			return frontWrong, "", 0
		}
	}
	return found, "", 0
}

func plainValidDecoder(d impl.Decoder) bool {
	if d.Width < 1 || d.Width > 8 || len(d.Frames) > 500 {
		return false
	}
	for _, frame := range d.Frames {
		if frame == "" || len(frame) > 1000 {
			return false
		}
	}
	if d.Bad {
		return d.Rest == ""
	}
	front, _, _ := frameFront(d.Rest, d.Width)
	return front == frontWaits
}

func plainFeed(d impl.Decoder, more string) impl.Decoder {
	if !plainValidDecoder(d) {
		return impl.Decoder{}
	}
	d.Frames = slices.Clone(d.Frames)
	if d.Bad {
		return d
	}
	d.Rest += more
	for {
		front, payload, size := frameFront(d.Rest, d.Width)
		if front == frontWaits {
			return d
		}
		if front == frontWrong || len(d.Frames) == 500 {
			d.Rest, d.Bad = "", true
			return d
		}
		d.Frames = append(d.Frames, payload)
		d.Rest = d.Rest[size:]
	}
}

func sameDecoder(d, e impl.Decoder) bool {
	return d.Width == e.Width && d.Rest == e.Rest && slices.Equal(d.Frames, e.Frames) && d.Bad == e.Bad
}

func decoderText(d impl.Decoder) string {
	rest := d.Rest
	if len(rest) > 40 {
		rest = rest[:40] + ".."
	}
	text := "width " + strconv.Itoa(d.Width) + ", " + strconv.Itoa(len(d.Frames)) + " frames, " + strconv.Itoa(len(d.Rest)) + " bytes of rest " + strconv.Quote(rest)
	if d.Bad {
		text += ", bad"
	}
	return text
}

// fed is Feed, watched: nothing is written into the argument or behind its
// end, and what comes out is valid if what went in is, else nothing.
func fed(t *testing.T, d impl.Decoder, more string) impl.Decoder {
	t.Helper()
	room := d.Frames[:cap(d.Frames)]
	kept := slices.Clone(room)
	got := impl.Feed(d, more)
	if !slices.Equal(room, kept) {
		t.Errorf("%s: its frames were changed", decoderText(d))
	}
	if impl.ValidDecoder(d) != impl.ValidDecoder(got) {
		t.Errorf("%s: one of it and what comes out is not valid: %s", decoderText(d), decoderText(got))
	}
	return got
}

func wantFed(t *testing.T, d impl.Decoder, more string, want impl.Decoder) {
	t.Helper()
	if got := fed(t, d, more); !sameDecoder(got, want) {
		t.Errorf("%s, fed %d bytes: %s, want %s", decoderText(d), len(more), decoderText(got), decoderText(want))
	}
}

func fedAll(t *testing.T, d impl.Decoder, pieces []string) impl.Decoder {
	t.Helper()
	for _, piece := range pieces {
		d = fed(t, d, piece)
	}
	return d
}

func fedByBytes(t *testing.T, d impl.Decoder, text string) impl.Decoder {
	t.Helper()
	for i := range len(text) {
		d = fed(t, d, text[i:i+1])
	}
	return d
}

func repeated(text string, n int) []string { return slices.Repeat([]string{text}, n) }

// randomBytes are n of them, where a text as Go reads it has runes.
func randomBytes(source *rand.Rand, n int) string {
	b := make([]byte, n)
	source.Read(b)
	return string(b)
}

func randomPayloads(source *rand.Rand, n int) []string {
	sizes := []int{1, 2, 5, 126, 127, 128, 129, 255, 256, 257, 999, 1000}
	payloads := []string{}
	for range n {
		size := sizes[source.Intn(len(sizes))]
		if source.Intn(2) == 0 {
			size = 1 + source.Intn(20)
		}
		payloads = append(payloads, randomBytes(source, size))
	}
	return payloads
}

// randomPieces cuts a text, now into single bytes, now into long pieces, and
// leaves some pieces empty.
func randomPieces(source *rand.Rand, text string) []string {
	pieces := []string{}
	most := 1 + source.Intn(1+source.Intn(600))
	for text != "" {
		n := min(source.Intn(most+1), len(text))
		pieces = append(pieces, text[:n])
		text = text[n:]
	}
	return append(pieces, "")
}

func TestFrameLimits(t *testing.T) {
	if impl.MaxFrame != 1000 || impl.MaxFrames != 500 {
		t.Error(impl.MaxFrame, impl.MaxFrames)
	}
}

func TestEncodeIsThatOfTheDocument(t *testing.T) {
	if got := impl.Encode([]string{"a", "foobar"}, 8); got != "\x01a\xaf\x63\xdc\x4c\x86\x01\xec\x8c\x06foobar\x85\x94\x41\x71\xf7\x39\x67\xe8" {
		t.Errorf("%q", got)
	}
	if got := impl.Encode([]string{strings.Repeat("x", 300)}, 1); got[:3] != "\xac\x02x" || len(got) != 303 {
		t.Errorf("%q", got)
	}
	source := rand.New(rand.NewSource(31))
	for width := 1; width <= impl.MaxWidth; width++ {
		for _, none := range [][]string{nil, {}} {
			if got := impl.Encode(none, width); got != "" {
				t.Errorf("%q", got)
			}
		}
		for n := 1; n <= impl.MaxFrame; n++ {
			payload := randomBytes(source, n)
			if got := impl.Encode([]string{payload}, width); got != plainFrame(payload, width) {
				t.Errorf("width %d, %d bytes: %q", width, n, got)
			}
		}
		payloads := randomPayloads(source, 30)
		want := ""
		for _, payload := range payloads {
			want += plainFrame(payload, width)
		}
		if got := impl.Encode(payloads, width); got != want {
			t.Errorf("width %d: %q, want %q", width, got, want)
		}
	}
}

func wantNotEncoded(t *testing.T, payloads []string, width int) {
	t.Helper()
	if got := impl.Encode(payloads, width); got != "" {
		t.Errorf("width %d, %d payloads: %d bytes", width, len(payloads), len(got))
	}
}

func TestEncodeRefuses(t *testing.T) {
	for _, width := range noWidths() {
		wantNotEncoded(t, []string{"a"}, width)
		wantNotEncoded(t, nil, width)
	}
	most := strings.Repeat("m", impl.MaxFrame)
	for width := 1; width <= impl.MaxWidth; width++ {
		for _, wrong := range []string{"", most + "m", most + most} {
			wantNotEncoded(t, []string{wrong}, width)
			wantNotEncoded(t, []string{wrong, "a"}, width)
			wantNotEncoded(t, []string{"a", wrong, "b"}, width)
			wantNotEncoded(t, []string{"a", wrong}, width)
		}
		if got := impl.Encode(repeated(most, impl.MaxFrames), width); len(got) != 500*(2+1000+width) {
			t.Errorf("width %d: %d bytes", width, len(got))
		}
		wantNotEncoded(t, repeated(most, impl.MaxFrames+1), width)
		wantNotEncoded(t, repeated("a", impl.MaxFrames+1), width)
	}
}

func TestEncodedPayloadsComeBack(t *testing.T) {
	source := rand.New(rand.NewSource(32))
	for width := 1; width <= impl.MaxWidth; width++ {
		begin := impl.Decoder{Width: width}
		lists := [][]string{nil, {"a"}, {"\x00"}, repeated("\xff", impl.MaxFrames), randomPayloads(source, impl.MaxFrames)}
		for range 30 {
			lists = append(lists, randomPayloads(source, source.Intn(12)))
		}
		for _, payloads := range lists {
			want := impl.Decoder{Width: width, Frames: payloads}
			text := impl.Encode(payloads, width)
			wantFed(t, begin, text, want)
			if got := fedAll(t, begin, randomPieces(source, text)); !sameDecoder(got, want) {
				t.Errorf("%s, want %s", decoderText(got), decoderText(want))
			}
		}
	}
	most := repeated(strings.Repeat("m", impl.MaxFrame), impl.MaxFrames)
	wantFed(t, impl.Decoder{Width: 8}, impl.Encode(most, 8), impl.Decoder{Width: 8, Frames: most})
}

func TestEveryCutInThree(t *testing.T) {
	for _, width := range []int{1, 3, 8} {
		good := impl.Encode([]string{"a", "bc", "def"}, width)
		for _, text := range []string{
			good,
			good + "\x02g",
			good + "\x01g" + plainSum("h", width),
			good[:len(good)-1] + "?" + good,
			good + "\x00" + good,
			good + "\xe9\x07" + good,
			"\x81\x00" + good,
		} {
			begin := impl.Decoder{Width: width}
			want := plainFeed(begin, text)
			wantFed(t, begin, text, want)
			if got := fedByBytes(t, begin, text); !sameDecoder(got, want) {
				t.Errorf("%q by bytes: %s", text, decoderText(got))
			}
			for i := range len(text) + 1 {
				for j := i; j <= len(text); j++ {
					got := fedAll(t, begin, []string{text[:i], text[i:j], text[j:]})
					if !sameDecoder(got, want) {
						t.Errorf("%q, cut at %d and %d: %s", text, i, j, decoderText(got))
					}
				}
			}
		}
	}
}

// randomStream is frames behind each other; some have a byte changed, put in
// or left out.
func randomStream(source *rand.Rand, width int) string {
	stream := ""
	for _, payload := range randomPayloads(source, source.Intn(8)) {
		frame := plainFrame(payload, width)
		if source.Intn(6) == 0 {
			i := source.Intn(len(frame))
			put := []string{"", randomBytes(source, 1), frame[i:i+1] + randomBytes(source, 1)}
			frame = frame[:i] + put[source.Intn(3)] + frame[i+1:]
		}
		stream += frame
	}
	return stream[:len(stream)-source.Intn(1+min(len(stream), 20))]
}

func TestHoweverItIsCut(t *testing.T) {
	source := rand.New(rand.NewSource(33))
	bad, waiting := 0, 0
	for round := range 1500 {
		width := 1 + round%impl.MaxWidth
		begin := impl.Decoder{Width: width}
		if source.Intn(4) == 0 {
			begin.Frames = repeated("f", 495+source.Intn(6))
		}
		stream := randomStream(source, width)
		want := plainFeed(begin, stream)
		wantFed(t, begin, stream, want)
		got := begin
		plain := begin
		for _, piece := range randomPieces(source, stream) {
			got, plain = fed(t, got, piece), plainFeed(plain, piece)
			if !sameDecoder(got, plain) {
				t.Fatalf("width %d, %q: %s, want %s", width, stream, decoderText(got), decoderText(plain))
			}
		}
		if !sameDecoder(got, want) {
			t.Errorf("width %d, %q: %s, want %s", width, stream, decoderText(got), decoderText(want))
		}
		if got.Bad {
			bad++
		} else if got.Rest != "" {
			waiting++
		}
	}
	if bad < 200 || waiting < 200 {
		t.Errorf("%d bad, %d waiting", bad, waiting)
	}
}

// wantBadAt feeds a text byte by byte: the decoder is to wait with all that has
// come behind its frames up to the last byte, and to be Bad with that one.
func wantBadAt(t *testing.T, begin impl.Decoder, text string) {
	t.Helper()
	d := begin
	for i := range len(text) {
		if d.Bad || d.Rest != text[:i] || !slices.Equal(d.Frames, begin.Frames) {
			t.Errorf("%q, %d bytes: %s", text, i, decoderText(d))
			return
		}
		d = fed(t, d, text[i:i+1])
	}
	want := impl.Decoder{Width: begin.Width, Frames: begin.Frames, Bad: true}
	if !sameDecoder(d, want) {
		t.Errorf("%q: %s", text, decoderText(d))
	}
	wantFed(t, begin, text, want)
	wantFed(t, begin, text+"\x01a"+plainSum("a", begin.Width), want)
	before := begin
	before.Rest = text[:len(text)-1]
	if !impl.ValidDecoder(before) {
		t.Errorf("%q is the beginning of a frame, or not wrong yet", before.Rest)
	}
	before.Rest = text
	if impl.ValidDecoder(before) {
		t.Errorf("%q is the beginning of no frame", before.Rest)
	}
}

func wantWaits(t *testing.T, begin impl.Decoder, text string) {
	t.Helper()
	want := begin
	want.Rest = text
	wantFed(t, begin, text, want)
	wantFed(t, want, "", want)
	if !impl.ValidDecoder(want) {
		t.Errorf("%q can still become a frame", text)
	}
}

func TestNumbersThatAreNone(t *testing.T) {
	for width := 1; width <= impl.MaxWidth; width++ {
		for _, begin := range []impl.Decoder{{Width: width}, {Width: width, Frames: []string{"a", "b"}}, {Width: width, Frames: repeated("f", impl.MaxFrames)}} {
			wantBadAt(t, begin, "\x00")
			for low := 128; low <= 255; low++ {
				first := string([]byte{byte(low)})
				wantWaits(t, begin, first)
				wantBadAt(t, begin, first+"\x00")
				wantBadAt(t, begin, first+"\x08")
				wantBadAt(t, begin, first+"\x7f")
				wantBadAt(t, begin, first+"\x80")
				wantBadAt(t, begin, first+"\x81")
				wantBadAt(t, begin, first+"\xff")
			}
			wantBadAt(t, begin, "\xe9\x07")
			wantBadAt(t, begin, "\xff\x07")
			wantWaits(t, begin, "\xe8\x07")
			wantWaits(t, begin, "\xff\x06")
			wantWaits(t, begin, "\x80\x01")
			wantWaits(t, begin, "\x7f")
			wantWaits(t, begin, "\x01")
		}
	}
}

func TestEveryNumberOfAFrame(t *testing.T) {
	begin := impl.Decoder{Width: 2}
	for n := 1; n <= impl.MaxFrame; n++ {
		payload := strings.Repeat("p", n)
		frame := plainFrame(payload, 2)
		for _, cut := range []int{1, 2, 3, len(frame) - 3, len(frame) - 2, len(frame) - 1} {
			wantWaits(t, begin, frame[:cut])
		}
		wantFed(t, begin, frame, impl.Decoder{Width: 2, Frames: []string{payload}})
		wantFed(t, begin, frame+frame[:1], impl.Decoder{Width: 2, Frames: []string{payload}, Rest: frame[:1]})
	}
	for n := impl.MaxFrame + 1; n < 5000; n++ {
		wantBadAt(t, begin, plainShort(uint64(n)))
	}
}

func TestEveryFrontOfTwoBytes(t *testing.T) {
	for _, begin := range []impl.Decoder{{Width: 1}, {Width: 8, Frames: []string{"x"}}} {
		for first := range 256 {
			wantFed(t, begin, string([]byte{byte(first)}), plainFeed(begin, string([]byte{byte(first)})))
			for second := range 256 {
				text := string([]byte{byte(first), byte(second)})
				want := plainFeed(begin, text)
				wantFed(t, begin, text, want)
				d := begin
				d.Rest = text
				if impl.ValidDecoder(d) == want.Bad {
					t.Errorf("%q: %s", text, decoderText(want))
				}
			}
		}
	}
}

func TestWrongSumIsToldWithItsLastByte(t *testing.T) {
	for width := 1; width <= impl.MaxWidth; width++ {
		for _, payload := range []string{"a", "\x00", "payload", strings.Repeat("z", 130)} {
			frame := plainFrame(payload, width)
			for _, frames := range [][]string{nil, {"a", "\xff"}, repeated("f", impl.MaxFrames-1), repeated("f", impl.MaxFrames)} {
				begin := impl.Decoder{Width: width, Frames: frames}
				for i := len(frame) - width - 1; i < len(frame); i++ {
					wrong := frame[:i] + string([]byte{frame[i] ^ 1}) + frame[i+1:]
					wantBadAt(t, begin, wrong)
				}
			}
		}
	}
	// The sum of what a sum of that width can't tell apart is right.
	for k, pair := range clashing() {
		begin := impl.Decoder{Width: k + 1}
		text := plainText(pair[0]) + plainSum(pair[1], k+1)
		wantFed(t, begin, text, impl.Decoder{Width: k + 1, Frames: []string{pair[0]}})
		if k < 7 {
			wantBadAt(t, impl.Decoder{Width: k + 2}, plainText(pair[0])+plainSum(pair[1], k+2))
		}
	}
}

func TestMaxFramesIsToldWithAWholeFrame(t *testing.T) {
	for width := 1; width <= impl.MaxWidth; width++ {
		for _, payload := range []string{"a", strings.Repeat("m", impl.MaxFrame)} {
			frame := plainFrame(payload, width)
			room := impl.Decoder{Width: width, Frames: repeated("f", impl.MaxFrames-1)}
			full := impl.Decoder{Width: width, Frames: append(repeated("f", impl.MaxFrames-1), payload)}
			wantFed(t, room, frame, full)
			wantFed(t, room, frame+frame[:len(frame)-1], impl.Decoder{Width: width, Frames: full.Frames, Rest: frame[:len(frame)-1]})
			wantFed(t, room, frame+frame, impl.Decoder{Width: width, Frames: full.Frames, Bad: true})
			wantWaits(t, full, "")
			wantWaits(t, full, frame[:1])
			wantWaits(t, full, frame[:len(frame)-1])
			wantBadAt(t, full, frame)
		}
		all := impl.Encode(repeated("g", impl.MaxFrames), width)
		want := impl.Decoder{Width: width, Frames: repeated("g", impl.MaxFrames), Bad: true}
		wantFed(t, impl.Decoder{Width: width}, all+plainFrame("g", width), want)
		wantFed(t, impl.Decoder{Width: width}, all+all+"\x00", want)
	}
}

func TestBadStays(t *testing.T) {
	for width := 1; width <= impl.MaxWidth; width++ {
		for _, frames := range [][]string{nil, {}, {"a"}, repeated(strings.Repeat("m", impl.MaxFrame), impl.MaxFrames)} {
			bad := impl.Decoder{Width: width, Frames: frames, Bad: true}
			if !impl.ValidDecoder(bad) {
				t.Error(decoderText(bad))
			}
			for _, more := range []string{"", "\x00", "\x01", "\x01a", plainFrame("a", width)} {
				wantFed(t, bad, more, bad)
			}
		}
	}
}

func wantWrongDecoder(t *testing.T, d impl.Decoder) {
	t.Helper()
	if impl.ValidDecoder(d) {
		t.Error("valid: " + decoderText(d))
	}
	for _, more := range []string{"", "\x00", "a", "\x01a" + plainSum("a", 1)} {
		wantFed(t, d, more, impl.Decoder{})
	}
}

func TestDecodersThatAreNotValid(t *testing.T) {
	most := strings.Repeat("m", impl.MaxFrame)
	wantWrongDecoder(t, impl.Decoder{})
	for _, bad := range []bool{false, true} {
		for _, width := range noWidths() {
			wantWrongDecoder(t, impl.Decoder{Width: width, Bad: bad})
			wantWrongDecoder(t, impl.Decoder{Width: width, Bad: bad, Frames: []string{"a"}})
		}
		for width := 1; width <= impl.MaxWidth; width++ {
			for _, wrong := range []string{"", most + "m"} {
				wantWrongDecoder(t, impl.Decoder{Width: width, Bad: bad, Frames: []string{wrong}})
				wantWrongDecoder(t, impl.Decoder{Width: width, Bad: bad, Frames: []string{wrong, "a"}})
				wantWrongDecoder(t, impl.Decoder{Width: width, Bad: bad, Frames: []string{"a", wrong}})
			}
			wantWrongDecoder(t, impl.Decoder{Width: width, Bad: bad, Frames: repeated("f", impl.MaxFrames+1)})
			if !impl.ValidDecoder(impl.Decoder{Width: width, Bad: bad, Frames: repeated(most, impl.MaxFrames)}) {
				t.Error("each limit met")
			}
		}
	}
	for width := 1; width <= impl.MaxWidth; width++ {
		whole := plainFrame("a", width)
		for _, rest := range []string{"\x00", "\x80\x00", "\xe9\x07", "\x80\x80", whole, whole + "\x01", whole + whole, whole + "\x00", whole[:len(whole)-1] + "?"} {
			wantWrongDecoder(t, impl.Decoder{Width: width, Rest: rest})
			wantWrongDecoder(t, impl.Decoder{Width: width, Rest: rest, Frames: []string{"a"}})
			wantWrongDecoder(t, impl.Decoder{Width: width, Rest: rest, Frames: repeated("f", impl.MaxFrames)})
			wantWrongDecoder(t, impl.Decoder{Width: width, Rest: rest, Bad: true})
		}
		for _, rest := range []string{"\x01", "\x80", whole[:len(whole)-1]} {
			wantWrongDecoder(t, impl.Decoder{Width: width, Rest: rest, Bad: true})
			wantWrongDecoder(t, impl.Decoder{Width: 0, Rest: rest})
		}
	}
}

func TestValidDecoderIsAsTheDocumentSays(t *testing.T) {
	source := rand.New(rand.NewSource(34))
	valid := 0
	for range 4000 {
		width := source.Intn(10)
		stream := randomStream(source, min(max(width, 1), 8))
		d := impl.Decoder{Width: width, Rest: stream, Bad: source.Intn(8) == 0}
		if source.Intn(2) == 0 && stream != "" {
			d.Rest = stream[:source.Intn(len(stream))]
		}
		if source.Intn(3) == 0 {
			d.Frames = []string{"a", randomText(source), "b"}
		}
		want := plainValidDecoder(d)
		if impl.ValidDecoder(d) != want {
			t.Errorf("%s: want %v", decoderText(d), want)
		}
		if want {
			valid++
		}
		more := randomStream(source, 1)
		wantFed(t, d, more, plainFeed(d, more))
	}
	if valid < 400 || valid > 3600 {
		t.Errorf("%d valid", valid)
	}
}

// shareBytes says whether two texts lie in one memory, in part at least.
func shareBytes(a, b string) bool {
	if a == "" || b == "" {
		return false
	}
	from := uintptr(unsafe.Pointer(unsafe.StringData(a)))
	at := uintptr(unsafe.Pointer(unsafe.StringData(b)))
	return at < from+uintptr(len(a)) && from < at+uintptr(len(b))
}

func TestTextsOfDecodersAreNewMemory(t *testing.T) {
	frame := plainFrame("pq", 4)
	for _, rest := range []string{"", frame[:1], frame[:3], frame[:6]} {
		for _, more := range []string{"", frame[len(rest):], frame[len(rest):] + "\x05some", "\x00"} {
			d := impl.Decoder{Width: 4, Frames: []string{"one", "two"}, Rest: rest}
			got := fed(t, d, more)
			for _, text := range append(got.Frames, got.Rest) {
				for _, given := range append(d.Frames, rest, more) {
					if shareBytes(text, given) {
						t.Errorf("%q lies in the memory of %q", text, given)
					}
				}
			}
		}
	}
}

func TestFramesOfDecodersAreNewMemory(t *testing.T) {
	more := plainFrame("three", 4) + "\x05some"
	for _, bad := range []bool{false, true} {
		room := []string{"one", "two", "behind", "behind", "behind"}
		kept := slices.Clone(room)
		d := impl.Decoder{Width: 4, Frames: room[:2], Bad: bad}
		want := plainFeed(d, more)
		x, y := fed(t, d, more), fed(t, d, more)
		all := x.Frames[:cap(x.Frames)]
		for i := range all {
			all[i] = "changed"
		}
		if !slices.Equal(room, kept) || !sameDecoder(y, want) {
			t.Errorf("%q, %s", room, decoderText(y))
		}
		wantFed(t, d, more, want)
	}
	d := fed(t, impl.Decoder{Width: 1}, impl.Encode([]string{"a", "b", "c"}, 1))
	e := fed(t, d, impl.Encode([]string{"e"}, 1))
	f := fed(t, d, impl.Encode([]string{"f"}, 1))
	if e.Frames[3] != "e" || f.Frames[3] != "f" || len(d.Frames) != 3 {
		t.Errorf("%q %q %q", d.Frames, e.Frames, f.Frames)
	}
}

func TestLongTextsAreFed(t *testing.T) {
	begin := impl.Decoder{Width: 8}
	long := strings.Repeat("\x00", 1<<22)
	wantFed(t, begin, long, impl.Decoder{Width: 8, Bad: true})
	frame := plainFrame("a", 8)
	wantFed(t, begin, frame+long, impl.Decoder{Width: 8, Frames: []string{"a"}, Bad: true})
	wantWrongDecoder(t, impl.Decoder{Width: 8, Rest: "\xe8\x07" + long})
	wantWrongDecoder(t, impl.Decoder{Width: 8, Rest: strings.Repeat(frame, 1<<16)})
	payloads := repeated(strings.Repeat("m", 20), impl.MaxFrames)
	got := fedByBytes(t, begin, impl.Encode(payloads, 8))
	if !sameDecoder(got, impl.Decoder{Width: 8, Frames: payloads}) {
		t.Error(decoderText(got))
	}
}
