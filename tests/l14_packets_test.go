package tests

import (
	"bytes"
	"encoding/binary"
	"math"
	"slices"
	"strings"
	"testing"

	"loop.example/conferencehall/impl"
)

// picturePacket is a packet of which all bytes differ.
func picturePacket() impl.Packet {
	return impl.Packet{Source: 7, Number: 258, Time: 0x030405, Last: true, Bytes: "hi"}
}

func withSource(p impl.Packet, source int) impl.Packet {
	p.Source = source
	return p
}

func withNumber(p impl.Packet, number int) impl.Packet {
	p.Number = number
	return p
}

func withTime(p impl.Packet, time int) impl.Packet {
	p.Time = time
	return p
}

func withLast(p impl.Packet, last bool) impl.Packet {
	p.Last = last
	return p
}

func withBytes(p impl.Packet, bytes string) impl.Packet {
	p.Bytes = bytes
	return p
}

// fullPacket is as great as a packet may be everywhere.
func fullPacket() impl.Packet {
	return impl.Packet{Source: impl.MaxSource, Number: impl.MaxNumber, Time: impl.MaxTime, Last: true, Bytes: strings.Repeat("\xff", impl.MaxBytes)}
}

// emptyPacket is a packet with bytes of 0 alone in all its fields.
func emptyPacket() impl.Packet {
	return impl.Packet{}
}

// upTo returns numbers in 0..most: those at both ends, those beside powers of two, and some whose bytes all differ.
func upTo(most int) []int {
	var numbers []int
	for power := 1; power <= most+1; power *= 2 {
		numbers = append(numbers, power-2, power-1, power, power+1, most-power, most-power+1)
	}
	numbers = append(numbers, 0x0102, 0x0201, 0x7f80, 0x010203, 0x030201, 0x80ff7f, 0xff0080, 10, 99, 100, 1000, 50000, 123456)
	return slices.DeleteFunc(numbers, func(n int) bool { return n < 0 || n > most })
}

// outside returns numbers below 0 and beyond a greatest one; some have valid low bytes.
func outside(most int) []int {
	numbers := []int{-1, -2, -7, -128, -255, -256, -257, -65535, -65536, -1 << 24, -1 << 31, -1 << 32, math.MinInt32 - 1, math.MinInt, math.MinInt + 1}
	numbers = append(numbers, -most, -most-1, most+1, most+2, most+8, 2*most, 2*most+1, 2*most+2, 256*most, 256*(most+1), 1<<31, math.MaxInt32, 1<<32, 1<<32+7, 1<<40, math.MaxInt-1, math.MaxInt)
	return numbers
}

// byteTexts are texts of every count of bytes up to a most one, of bytes that are all the same and that all differ.
func byteTexts(most int) []string {
	var texts []string
	for count := 0; count <= most; count++ {
		for _, one := range []string{"\x00", "\x01", "a", "\x7f", "\x80", "\xff", "\n", " "} {
			texts = append(texts, strings.Repeat(one, count))
		}
		texts = append(texts, "\x00\x01\x02\x03\x04\x05\x06\x07\x08\x09\x0a\x0b\x0c\x0d\x0e\x0f"[:count], "\xff\xfe\xfd\xfc\xfb\xfa\xf9\xf8\xf7\xf6\xf5\xf4\xf3\xf2\xf1\xf0"[:count], "äöü\xff€𝄞abcdefgh"[:count])
	}
	return texts
}

// textsTooLong are as many bytes as no packet may have; the lowest bytes of some counts are valid counts.
func textsTooLong() []string {
	var texts []string
	for _, count := range []int{13, 14, 15, 16, 20, 24, 25, 64, 127, 128, 255, 256, 257, 258, 256 + impl.MaxBytes, 256 + impl.MaxBytes + 1, 512, 1000, 1 << 16, 1<<16 + 2, 1 << 24} {
		texts = append(texts, strings.Repeat("a", count), strings.Repeat("\x00", count))
	}
	return texts
}

// validPackets have every valid value in each field, while the others are small, middle and great.
func validPackets() []impl.Packet {
	var packets []impl.Packet
	for _, p := range []impl.Packet{emptyPacket(), picturePacket(), fullPacket()} {
		for source := 0; source <= impl.MaxSource; source++ {
			packets = append(packets, withSource(p, source))
		}
		for _, number := range upTo(impl.MaxNumber) {
			packets = append(packets, withNumber(p, number))
		}
		for _, time := range upTo(impl.MaxTime) {
			packets = append(packets, withTime(p, time))
		}
		for _, text := range byteTexts(impl.MaxBytes) {
			packets = append(packets, withBytes(p, text))
		}
	}
	for _, p := range slices.Clone(packets) {
		packets = append(packets, withLast(p, !p.Last))
	}
	return packets
}

// fewPackets are packets that differ in every field.
func fewPackets() []impl.Packet {
	packets := []impl.Packet{emptyPacket(), picturePacket(), fullPacket(), withBytes(fullPacket(), ""), withBytes(emptyPacket(), "\x00"), withBytes(emptyPacket(), strings.Repeat("\x01", impl.MaxBytes))}
	for _, text := range byteTexts(impl.MaxBytes) {
		packets = append(packets, withBytes(picturePacket(), text))
	}
	for _, p := range slices.Clone(packets) {
		packets = append(packets, withLast(p, !p.Last))
	}
	return packets
}

// wrongPackets are packets of which exactly one field is invalid.
func wrongPackets() []impl.Packet {
	var packets []impl.Packet
	for _, p := range []impl.Packet{emptyPacket(), picturePacket(), fullPacket()} {
		for _, source := range outside(impl.MaxSource) {
			packets = append(packets, withSource(p, source))
		}
		for _, number := range outside(impl.MaxNumber) {
			packets = append(packets, withNumber(p, number))
		}
		for _, time := range outside(impl.MaxTime) {
			packets = append(packets, withTime(p, time))
		}
		for _, text := range textsTooLong() {
			packets = append(packets, withBytes(p, text))
		}
	}
	return packets
}

// bytesByHand returns the bytes of a valid packet, made by a library.
func bytesByHand(p impl.Packet) []byte {
	var number [2]byte
	var time [4]byte
	binary.BigEndian.PutUint16(number[:], uint16(p.Number))
	binary.BigEndian.PutUint32(time[:], uint32(p.Time))
	last := []byte{0}
	if p.Last {
		last = []byte{1}
	}
	return bytes.Join([][]byte{{byte(p.Source)}, number[:], time[1:], last, {byte(len(p.Bytes))}, []byte(p.Bytes)}, nil)
}

// packetByHand reads a packet with a library, byte after byte from the front.
func packetByHand(b []byte) (impl.Packet, bool) {
	var fields struct {
		Source uint8
		Number uint16
		High   uint8
		Low    uint16
		Last   uint8
		Count  uint8
	}
	from := bytes.NewReader(b)
	if binary.Read(from, binary.BigEndian, &fields) != nil {
		return impl.Packet{}, false
	}
	rest := make([]byte, from.Len())
	from.Read(rest)
	if len(rest) != int(fields.Count) || fields.Count > 12 || fields.Last > 1 {
		return impl.Packet{}, false
	}
	return impl.Packet{Source: int(fields.Source), Number: int(fields.Number), Time: int(fields.High)<<16 | int(fields.Low), Last: fields.Last == 1, Bytes: string(rest)}, true
}

func checkPacketBytes(t *testing.T, p impl.Packet, want []byte) {
	t.Helper()
	if got := impl.PacketBytes(p); !bytes.Equal(got, want) {
		t.Errorf("PacketBytes(%+v) = %v, want %v", p, got, want)
	}
}

func checkReadPacket(t *testing.T, b []byte, want impl.Packet, wantOK bool) {
	t.Helper()
	if got, ok := impl.ReadPacket(b); got != want || ok != wantOK {
		t.Errorf("ReadPacket(%v) = %+v, %v, want %+v, %v", b, got, ok, want, wantOK)
	}
}

func checkNoPacket(t *testing.T, b []byte) {
	t.Helper()
	checkReadPacket(t, b, impl.Packet{}, false)
}

// checkReadBack checks that a packet is valid, its bytes are those made by hand, and the packet is read from them.
func checkReadBack(t *testing.T, p impl.Packet) {
	t.Helper()
	if !impl.PacketValid(p) {
		t.Errorf("PacketValid(%+v) = false", p)
	}
	checkPacketBytes(t, p, bytesByHand(p))
	checkReadPacket(t, impl.PacketBytes(p), p, true)
}

// checkAnyBytes checks that bytes are read as by hand, and that those that are accepted are the bytes of what was read.
func checkAnyBytes(t *testing.T, b []byte) {
	t.Helper()
	want, wantOK := packetByHand(b)
	checkReadPacket(t, b, want, wantOK)
	got, ok := impl.ReadPacket(b)
	if !ok {
		return
	}
	if !impl.PacketValid(got) {
		t.Errorf("ReadPacket(%v) = %+v, which is not valid", b, got)
	}
	checkPacketBytes(t, got, b)
}

// Promise 20. The limits are those of the document's table.
func TestLimitsOfPackets(t *testing.T) {
	got := []int{impl.MaxSource, impl.MaxNumber, impl.MaxTime, impl.MaxBytes}
	if want := []int{255, 65535, 16777215, 12}; !slices.Equal(got, want) {
		t.Errorf("the limits are %v, want %v", got, want)
	}
}

// Promise 20. Examples by hand.
func TestSomePackets(t *testing.T) {
	for _, example := range []struct {
		p impl.Packet
		b []byte
	}{
		{impl.Packet{}, []byte{0, 0, 0, 0, 0, 0, 0, 0}},
		{impl.Packet{Last: true}, []byte{0, 0, 0, 0, 0, 0, 1, 0}},
		{impl.Packet{Source: 1}, []byte{1, 0, 0, 0, 0, 0, 0, 0}},
		{impl.Packet{Source: 255}, []byte{255, 0, 0, 0, 0, 0, 0, 0}},
		{impl.Packet{Number: 1}, []byte{0, 0, 1, 0, 0, 0, 0, 0}},
		{impl.Packet{Number: 255}, []byte{0, 0, 255, 0, 0, 0, 0, 0}},
		{impl.Packet{Number: 256}, []byte{0, 1, 0, 0, 0, 0, 0, 0}},
		{impl.Packet{Number: 65535}, []byte{0, 255, 255, 0, 0, 0, 0, 0}},
		{impl.Packet{Time: 1}, []byte{0, 0, 0, 0, 0, 1, 0, 0}},
		{impl.Packet{Time: 256}, []byte{0, 0, 0, 0, 1, 0, 0, 0}},
		{impl.Packet{Time: 65536}, []byte{0, 0, 0, 1, 0, 0, 0, 0}},
		{impl.Packet{Time: 16777215}, []byte{0, 0, 0, 255, 255, 255, 0, 0}},
		{impl.Packet{Bytes: "\x00"}, []byte{0, 0, 0, 0, 0, 0, 0, 1, 0}},
		{impl.Packet{Bytes: "\xff\x00"}, []byte{0, 0, 0, 0, 0, 0, 0, 2, 255, 0}},
		{picturePacket(), []byte{7, 1, 2, 3, 4, 5, 1, 2, 'h', 'i'}},
		{impl.Packet{Source: 9, Number: 0x1234, Time: 0x56789a, Bytes: "abcdefghijkl"}, []byte{9, 0x12, 0x34, 0x56, 0x78, 0x9a, 0, 12, 'a', 'b', 'c', 'd', 'e', 'f', 'g', 'h', 'i', 'j', 'k', 'l'}},
		{fullPacket(), []byte{255, 255, 255, 255, 255, 255, 1, 12, 255, 255, 255, 255, 255, 255, 255, 255, 255, 255, 255, 255}},
	} {
		checkPacketBytes(t, example.p, example.b)
		checkReadPacket(t, example.b, example.p, true)
	}
}

// Promise 20.
func TestPacketsAreReadBack(t *testing.T) {
	for _, p := range validPackets() {
		checkReadBack(t, p)
	}
}

// Promise 20. All numbers, in packets that are the last ones and that are not.
func TestEveryNumberIsReadBack(t *testing.T) {
	for number := 0; number <= impl.MaxNumber; number++ {
		checkReadBack(t, withLast(withNumber(picturePacket(), number), number%2 == 0))
	}
}

// Promise 20. Times so far apart that every byte of them has all its values, beside many values of the others.
func TestManyTimesAreReadBack(t *testing.T) {
	for time := 0; time <= impl.MaxTime; time += 251 {
		checkReadBack(t, withTime(picturePacket(), time))
	}
}

// Promise 20. Bytes of all values in each place of packets of all counts of bytes.
func TestEveryByteIsReadBack(t *testing.T) {
	for count := 1; count <= impl.MaxBytes; count++ {
		for place := 0; place < count; place++ {
			for value := 0; value < 256; value++ {
				text := []byte("abcdefghijkl"[:count])
				text[place] = byte(value)
				checkReadBack(t, withBytes(picturePacket(), string(text)))
			}
		}
	}
}

// Promise 20. All fields at their bounds and beside them, with each other.
func TestFieldsDoNotMeet(t *testing.T) {
	for _, source := range []int{0, 1, 127, 254, impl.MaxSource} {
		for _, number := range []int{0, 1, 255, 256, 0xff00, impl.MaxNumber - 1, impl.MaxNumber} {
			for _, time := range []int{0, 1, 0xff, 0xff00, 0xff0000, 0x010000, impl.MaxTime - 1, impl.MaxTime} {
				for _, text := range []string{"", "\x00", "\x01\xff", strings.Repeat("\x0c", impl.MaxBytes)} {
					p := impl.Packet{Source: source, Number: number, Time: time, Bytes: text}
					checkReadBack(t, p)
					checkReadBack(t, withLast(p, true))
				}
			}
		}
	}
}

// Promise 20. No two packets have the same bytes.
func TestDifferentPacketsHaveDifferentBytes(t *testing.T) {
	packets := map[string]impl.Packet{}
	for _, p := range validPackets() {
		b := string(impl.PacketBytes(p))
		if other, ok := packets[b]; ok && other != p {
			t.Errorf("%+v and %+v have the same bytes %v", other, p, []byte(b))
		}
		packets[b] = p
	}
}

// Promise 20. What is not valid has no bytes.
func TestWrongPacketsHaveNoBytes(t *testing.T) {
	for _, p := range wrongPackets() {
		for _, last := range []bool{true, false} {
			if got := impl.PacketBytes(withLast(p, last)); len(got) != 0 {
				t.Errorf("PacketBytes of a packet of source %d, number %d, time %d and %d bytes = %v, want nil", p.Source, p.Number, p.Time, len(p.Bytes), got)
			}
		}
	}
}

// Promise 81.
func TestPacketsHaveSources(t *testing.T) {
	for _, p := range validPackets() {
		for _, source := range []int{-1, -2, -p.Source - 1, -impl.MaxSource, p.Source - 256, math.MinInt32, math.MinInt, math.MinInt + p.Source} {
			if impl.PacketValid(withSource(p, source)) {
				t.Errorf("PacketValid(%+v) = true", withSource(p, source))
			}
			checkPacketBytes(t, withSource(p, source), nil)
		}
	}
}

// Promise 81.
func TestPacketsWithoutBytes(t *testing.T) {
	for _, p := range validPackets() {
		checkReadBack(t, withBytes(p, ""))
	}
}

// Promise 81. A packet that is not valid for another reason than its bytes is not valid without bytes, either.
func TestPacketsWithoutBytesMayBeWrong(t *testing.T) {
	for _, p := range wrongPackets() {
		want := len(p.Bytes) > impl.MaxBytes
		if got := impl.PacketValid(withBytes(p, "")); got != want {
			t.Errorf("PacketValid(%+v) = %v", withBytes(p, ""), got)
		}
	}
}

// Promise 81.
func TestPacketsThatAreNotValid(t *testing.T) {
	for _, p := range wrongPackets() {
		if impl.PacketValid(p) || impl.PacketValid(withLast(p, !p.Last)) {
			t.Errorf("a packet of source %d, number %d, time %d and %d bytes is valid", p.Source, p.Number, p.Time, len(p.Bytes))
		}
	}
}

// Promise 81. Every source, number and time near a bound, and every count of bytes.
func TestBoundsOfPackets(t *testing.T) {
	check := func(p impl.Packet, want bool) {
		t.Helper()
		if got := impl.PacketValid(p); got != want {
			t.Errorf("PacketValid of source %d, number %d, time %d and %d bytes = %v", p.Source, p.Number, p.Time, len(p.Bytes), got)
		}
	}
	for _, p := range []impl.Packet{emptyPacket(), picturePacket(), fullPacket()} {
		for near := -300; near <= 300; near++ {
			check(withSource(p, near), near >= 0 && near <= 255)
			check(withNumber(p, near), near >= 0)
			check(withNumber(p, 65535+near), near <= 0)
			check(withTime(p, near), near >= 0)
			check(withTime(p, 16777215+near), near <= 0)
		}
		for count := 0; count <= 600; count++ {
			check(withBytes(p, strings.Repeat("a", count)), count <= 12)
		}
	}
}

// Promise 82. Every byte of some packets has all its values.
func TestAlteredBytes(t *testing.T) {
	for _, p := range fewPackets() {
		b := bytesByHand(p)
		for place := range b {
			for value := 0; value < 256; value++ {
				altered := slices.Clone(b)
				altered[place] = byte(value)
				checkAnyBytes(t, altered)
			}
		}
	}
}

// Promise 82.
func TestPacketsWithOneByteMore(t *testing.T) {
	for _, p := range fewPackets() {
		for more := 0; more < 256; more++ {
			checkNoPacket(t, append(impl.PacketBytes(p), byte(more)))
			checkAnyBytes(t, append([]byte{byte(more)}, bytesByHand(p)...))
		}
	}
	for _, p := range validPackets() {
		for _, more := range []byte{0, 1, 12, 'a', 255} {
			checkNoPacket(t, append(impl.PacketBytes(p), more))
		}
		checkNoPacket(t, append(impl.PacketBytes(p), impl.PacketBytes(p)...))
	}
}

// Promise 82. A byte more in any place: it may be one of the fields, and then the others say whether it is a packet.
func TestBytesWithOnePutIn(t *testing.T) {
	for _, p := range fewPackets() {
		b := bytesByHand(p)
		for place := 0; place <= len(b); place++ {
			for _, more := range []byte{0, 1, 2, 11, 12, 13, 'a', 255} {
				checkAnyBytes(t, slices.Insert(slices.Clone(b), place, more))
			}
		}
	}
}

// Promise 82. Packets that are cut off behind or in front.
func TestPacketsThatAreCutOff(t *testing.T) {
	for _, p := range validPackets() {
		b := bytesByHand(p)
		for place := range b {
			checkNoPacket(t, b[:place])
			checkAnyBytes(t, b[len(b)-place:])
		}
	}
}

// Promise 82. All counts that bytes may tell and all that they may have, whatever is told of the last one.
func TestCountsOfBytes(t *testing.T) {
	for count := 0; count <= 300; count++ {
		for told := 0; told < 256; told++ {
			b := append([]byte{7, 1, 2, 3, 4, 5, 1, byte(told)}, make([]byte, count)...)
			wantOK := told == count && count <= 12
			if _, ok := impl.ReadPacket(b); ok != wantOK {
				t.Errorf("ReadPacket of %d bytes that tell of %d = %v", count, told, ok)
			}
			checkAnyBytes(t, b)
		}
	}
}

// Promise 82.
func TestLastOnesAreOneOrZero(t *testing.T) {
	for _, p := range fewPackets() {
		for told := 2; told < 256; told++ {
			b := bytesByHand(p)
			b[6] = byte(told)
			checkNoPacket(t, b)
		}
	}
}

// Promise 82. No bytes at all, all single ones and pairs, and too few of all values.
func TestFewBytesAreNoPacket(t *testing.T) {
	checkNoPacket(t, nil)
	checkNoPacket(t, []byte{})
	for first := 0; first < 256; first++ {
		checkNoPacket(t, []byte{byte(first)})
		for second := 0; second < 256; second++ {
			checkNoPacket(t, []byte{byte(first), byte(second)})
		}
		for count := 0; count < 8; count++ {
			checkNoPacket(t, bytes.Repeat([]byte{byte(first)}, count))
		}
	}
}

// Promise 82. Many more bytes than a packet may have.
func TestManyBytesAreNoPacket(t *testing.T) {
	for _, count := range []int{21, 22, 256, 257, 263, 264, 265, 276, 277, 1000, 1 << 16, 1<<16 + 8, 1 << 20} {
		for _, value := range []byte{0, 1, 12, 13, 255} {
			checkNoPacket(t, bytes.Repeat([]byte{value}, count))
		}
		for _, p := range []impl.Packet{emptyPacket(), picturePacket(), fullPacket()} {
			checkNoPacket(t, append(bytesByHand(p), make([]byte, count)...))
		}
	}
}

// Promise 82. All runs of 8 and 9 bytes over 0, 1 and one more, which are packets of no byte or one.
func TestRunsOfBytes(t *testing.T) {
	for _, values := range [][]byte{{0, 1, 2}, {0, 1, 255}} {
		for count, runs := 8, 6561; count <= 9; count, runs = count+1, 3*runs {
			for run := 0; run < runs; run++ {
				b := make([]byte, count)
				for place, rest := 0, run; place < count; place, rest = place+1, rest/3 {
					b[place] = values[rest%3]
				}
				checkAnyBytes(t, b)
			}
		}
	}
}

// Promise 20. The bytes are new ones each time, also those behind their end.
func TestBytesOfPacketsShareNoMemory(t *testing.T) {
	for _, p := range fewPackets() {
		first, second := impl.PacketBytes(p), impl.PacketBytes(p)
		overwrite(first, 'X')
		if !bytes.Equal(second, bytesByHand(p)) {
			t.Errorf("two results of PacketBytes(%+v) share memory: %v became %v", p, bytesByHand(p), second)
		}
	}
}

// Promise 82. Neither what is read nor what is refused is written to, and packets keep their bytes when those that they were read from change.
func TestReadPacketsShareNoMemory(t *testing.T) {
	var lists [][]byte
	for _, p := range fewPackets() {
		b := bytesByHand(p)
		lists = append(lists, b, b[:len(b)-1], append(slices.Clone(b), 0))
	}
	for _, b := range lists {
		argument := roomy(b, 'X')
		got, _ := impl.ReadPacket(argument)
		checkUnwritten(t, argument, b, 'X')
		overwrite(argument, 'X')
		if want, _ := packetByHand(b); got != want {
			t.Errorf("the packet of %v is memory of its bytes: it became %+v", b, got)
		}
	}
}

// Promise 20. Bytes behind the end of an argument do not belong to the packet.
func TestBytesBehindTheEndAreNotRead(t *testing.T) {
	for _, p := range fewPackets() {
		b := append(bytesByHand(p), make([]byte, 16)...)
		checkReadPacket(t, b[:8+len(p.Bytes)], p, true)
		checkNoPacket(t, b[:7+len(p.Bytes)])
	}
}
