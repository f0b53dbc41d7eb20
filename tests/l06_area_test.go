package tests

import (
	"encoding/binary"
	"fmt"
	"hash/crc32"
	"math"
	"slices"
	"strings"
	"testing"

	"loop.example/g00633/impl"
)

const allSteps = 1000

func sealedBy(body string) string {
	return body + string(binary.LittleEndian.AppendUint32(nil, crc32.ChecksumIEEE([]byte(body))))
}

func numsBytes(nums ...int64) string {
	var out []byte
	for _, n := range nums {
		out = binary.AppendVarint(out, n)
	}
	return string(out)
}

func headBytes(gen, side, size int64) string {
	return sealedBy(numsBytes(gen, side, size))
}

func half(d impl.Disk) int {
	return (len(d.Sectors) - 1) / 2
}

func room(d impl.Disk) int {
	return half(d) * impl.SectorSize
}

func needed(text string) int {
	return (len(text) + impl.SectorSize - 1) / impl.SectorSize
}

// areaIn and putInto are a second reckoning of AreaRead and AreaPut, of right
// disks.
func areaIn(d impl.Disk) impl.AreaOut {
	head := readIn(d, 0)
	if len(head) < 4 {
		return impl.AreaOut{Code: impl.ErrShort}
	}
	body := head[:len(head)-4]
	if sealedBy(body) != head {
		return impl.AreaOut{Code: impl.ErrSum}
	}
	var nums [3]int64
	rest := []byte(body)
	for i := range nums {
		n, size := binary.Varint(rest)
		nums[i], rest = n, rest[max(size, 0):]
	}
	gen, side, size := nums[0], nums[1], nums[2]
	if numsBytes(gen, side, size) != body || gen < 0 || side != 0 && side != 1 || size < 0 || size > int64(room(d)) {
		return impl.AreaOut{Code: impl.ErrSyntax}
	}
	var all strings.Builder
	for i := range int64(half(d)) {
		data := readIn(d, 1+side*int64(half(d))+i)
		here := max(0, min(size-i*impl.SectorSize, impl.SectorSize))
		if int64(len(data)) < here {
			return impl.AreaOut{Code: impl.ErrSum}
		}
		all.WriteString(data[:here])
	}
	return impl.AreaOut{Disk: d, Text: all.String(), Gen: gen}
}

func sideIn(d impl.Disk) int {
	side, _ := binary.Varint([]byte(readIn(d, 0))[len(numsBytes(areaIn(d).Gen)):])
	return int(side)
}

func putInto(d impl.Disk, text string, steps int64) impl.AreaOut {
	was := areaIn(d)
	if was.Code != impl.OK {
		return impl.AreaOut{Code: was.Code}
	}
	if len(text) > room(d) || was.Gen >= impl.MaxTime {
		return impl.AreaOut{Code: impl.ErrFull}
	}
	side := 1 - sideIn(d)
	out := impl.AreaOut{Disk: copyOf(d)}
	for step := range max(0, min(steps, int64(needed(text)+3))) {
		i := int(step)
		write := impl.Pending{Data: headBytes(was.Gen+1, int64(side), int64(len(text)))}
		if i < needed(text) {
			rest := text[i*impl.SectorSize:]
			write = impl.Pending{At: int64(1 + side*half(d) + i), Data: rest[:min(len(rest), impl.SectorSize)]}
		}
		if i == needed(text) || i == needed(text)+2 {
			out.Disk = crashed(out.Disk, slices.Repeat([]int64{1}, len(out.Disk.Pending)))
			continue
		}
		if len(out.Disk.Pending) == mostPending {
			return impl.AreaOut{Code: impl.ErrFull}
		}
		out.Disk.Pending = append(out.Disk.Pending, write)
	}
	return out
}

func wantArea(t *testing.T, what string, got, want impl.AreaOut) {
	t.Helper()
	if got.Code != want.Code || got.Text != want.Text || got.Gen != want.Gen {
		t.Errorf("%s: got code %d, gen %d and %.40q (%d bytes), want %d, %d and %.40q (%d bytes)",
			what, got.Code, got.Gen, got.Text, len(got.Text), want.Code, want.Gen, want.Text, len(want.Text))
	}
	wantDisk(t, what, got.Disk, want.Disk)
}

func wantAreaCode(t *testing.T, what string, got impl.AreaOut, code int64) {
	t.Helper()
	wantArea(t, what, got, impl.AreaOut{Code: code})
}

func wantRead(t *testing.T, what string, d impl.Disk, text string, gen int64) {
	t.Helper()
	wantArea(t, what, impl.AreaRead(d), impl.AreaOut{Disk: d, Text: text, Gen: gen})
}

// areaOf has a text on a side under a head of that gen; the other sectors are
// full of something else, and nothing is pending.
func areaOf(sectors int, gen int64, side int, text string) impl.Disk {
	d := impl.Disk{Sectors: make([]string, sectors)}
	for at := range d.Sectors {
		d.Sectors[at] = mixed(uint64(900+at), impl.SectorSize)
	}
	d.Sectors[0] = headBytes(gen, int64(side), int64(len(text)))
	for i := range half(d) {
		rest := text[min(len(text), i*impl.SectorSize):]
		d.Sectors[1+side*half(d)+i] = rest[:min(len(rest), impl.SectorSize)]
	}
	return d
}

// formatted: of 3 sectors up to all, even and odd, with none and some pending.
func formatted(t *testing.T) []impl.Disk {
	t.Helper()
	var out []impl.Disk
	for i, sectors := range []int{3, 4, 5, 6, 7, 16, 33, impl.MaxSectors - 1, impl.MaxSectors} {
		for _, pending := range []int{0, 1, 5, 100} {
			got := impl.AreaFormat(diskOf(uint64(300+10*i+pending), sectors, pending/2))
			if got.Code != impl.OK {
				t.Fatalf("a disk of %d sectors is not formatted: code %d", sectors, got.Code)
			}
			d := got.Disk
			for j := range pending {
				at := 1 + (j*7+i)%(sectors-1)
				d = withPending(d, impl.Pending{At: int64(at), Data: mixed(uint64(j), (j*31)%(impl.SectorSize+1))})
			}
			out = append(out, d)
		}
	}
	return out
}

// putTexts: around each edge of a sector that may matter, up to all the room.
func putTexts(d impl.Disk) []string {
	var out []string
	for i, size := range []int{0, 1, 5, 63, 64, 65, 127, 128, 129, room(d) / 2, room(d) - 64, room(d) - 63, room(d) - 1, room(d)} {
		if size >= 0 && size <= room(d) {
			out = append(out, mixed(uint64(50+i), size))
		}
	}
	return out
}

// Rooms and formatting.

func TestAreaRoom(t *testing.T) {
	for sectors, want := range map[int64]int64{1: 0, 2: 0, 3: 64, 4: 64, 5: 128, 6: 128, 7: 192, 33: 1024, 34: 1024, 63: 1984, 64: 1984} {
		if got := impl.AreaRoom(impl.DiskNew(sectors)); got != want {
			t.Errorf("the room of %d sectors: got %d, want %d", sectors, got, want)
		}
	}
	for _, d := range rightDisks() {
		if got := impl.AreaRoom(d); got != int64(room(d)) {
			t.Errorf("the room of %d sectors: got %d, want %d", len(d.Sectors), got, room(d))
		}
	}
	for i, d := range wrongDisks() {
		if got := impl.AreaRoom(d); got != 0 {
			t.Errorf("the room of the wrong disk %d: got %d", i, got)
		}
	}
}

func TestAreaFormat(t *testing.T) {
	for _, d := range rightDisks() {
		got := impl.AreaFormat(d)
		if len(d.Sectors) < 3 || len(d.Pending) == mostPending {
			wantAreaCode(t, "too few sectors, or too many pending", got, impl.ErrFull)
			continue
		}
		sectors := putIn(crashed(d, slices.Repeat([]int64{1}, mostPending)).Sectors, 0, headBytes(0, 0, 0))
		wantArea(t, "formatted", got, impl.AreaOut{Disk: impl.Disk{Sectors: sectors}})
		wantRead(t, "read behind formatting", got.Disk, "", 0)
		wantArea(t, "formatted again", impl.AreaFormat(got.Disk), got)
	}
	wantBytes(t, "the first head", impl.AreaFormat(impl.DiskNew(3)).Disk.Sectors[0], "\x00\x00\x00\x12\xd9\x41\xff")
}

func TestAreaFormatEdges(t *testing.T) {
	for sectors := range 3 {
		for _, pending := range []int{0, 1, mostPending} {
			if sectors > 0 {
				wantAreaCode(t, "too few sectors", impl.AreaFormat(diskOf(1, sectors, pending)), impl.ErrFull)
			}
		}
	}
	wantAreaCode(t, "one of 0", impl.AreaFormat(impl.DiskNew(0)), impl.ErrForm)
	wantAreaCode(t, "too few sectors, and a wrong one", impl.AreaFormat(impl.Disk{Sectors: []string{mixed(1, impl.SectorSize+1)}}), impl.ErrForm)
	for _, d := range wrongDisks() {
		wantAreaCode(t, "a wrong one", impl.AreaFormat(d), impl.ErrForm)
	}
}

// What was there is gone behind formatting, and Gen begins anew.
func TestAreaFormatAnew(t *testing.T) {
	for side := range 2 {
		for _, gen := range []int64{0, 7, impl.MaxTime, math.MaxInt64} {
			d := areaOf(7, gen, side, mixed(3, 100))
			got := impl.AreaFormat(d).Disk
			wantRead(t, "formatted anew", got, "", 0)
			wantTexts(t, "the other sectors", got.Sectors[1:], d.Sectors[1:])
			wantRead(t, "put then", impl.AreaPut(got, "text", allSteps).Disk, "text", 1)
		}
	}
}

// Reading.

func TestAreaReadOfBothSides(t *testing.T) {
	for _, sectors := range []int{3, 4, 5, 6, 63, 64} {
		for side := range 2 {
			for _, gen := range []int64{0, 1, impl.MaxTime - 1, impl.MaxTime, impl.MaxTime + 1, math.MaxInt64} {
				for _, text := range putTexts(impl.DiskNew(int64(sectors))) {
					wantRead(t, "a text by hand", areaOf(sectors, gen, side, text), text, gen)
				}
			}
		}
	}
}

// A disk without room for a side has a text all the same, of no bytes.
func TestAreaOfFewSectors(t *testing.T) {
	for sectors := 1; sectors <= 2; sectors++ {
		d := impl.DiskNew(int64(sectors))
		wantAreaCode(t, "without a head", impl.AreaRead(d), impl.ErrShort)
		wantAreaCode(t, "put without a head", impl.AreaPut(d, "", allSteps), impl.ErrShort)
		for side := range int64(2) {
			d.Sectors[0] = headBytes(4, side, 0)
			wantRead(t, "of no bytes", d, "", 4)
			wantAreaCode(t, "a text put", impl.AreaPut(d, "x", allSteps), impl.ErrFull)
			put := impl.AreaPut(d, "", allSteps)
			wantArea(t, "no text put", put, impl.AreaOut{Disk: withSector(d, 0, headBytes(5, 1-side, 0))})
			wantRead(t, "no text put", put.Disk, "", 5)
			wantAreaCode(t, "of one byte", impl.AreaRead(withSector(d, 0, headBytes(4, side, 1))), impl.ErrSyntax)
		}
	}
}

// edgeHeads: what may stand in the sector 0, right and wrong.
func edgeHeads() []string {
	var out []string
	for _, gen := range []int64{0, 1, impl.MaxTime - 1, impl.MaxTime, impl.MaxTime + 1, math.MaxInt64, -1, math.MinInt64} {
		for _, side := range []int64{0, 1, 2, 3, -1, -2, 256, 1 << 32, 1<<32 + 1, math.MaxInt64, math.MinInt64} {
			for _, size := range []int64{0, 1, 63, 64, 65, 100, 128, 129, 1984, 1985, -1, -64, 1 << 32, math.MaxInt64, math.MinInt64} {
				out = append(out, headBytes(gen, side, size))
			}
		}
	}
	good := headBytes(1, 0, 5)
	for size := range good {
		out = append(out, good[:size], good[size:])
		for bit := range 8 {
			out = append(out, good[:size]+string([]byte{good[size] ^ 1<<bit})+good[size+1:])
		}
	}
	body := numsBytes(1, 0, 5)
	for _, wrong := range []string{
		"", numsBytes(1), numsBytes(1, 0), body + "\x00", body + "x", body + body, "\x00" + body, numsBytes(1, 0, 5, 0), body[:2] + "\x80",
		"\x82\x00" + body[1:], body[:1] + "\x80\x00" + body[2:], body[:2] + "\x8a\x00", "\x80", "\x80\x80\x80",
		strings.Repeat("\x80", 10), strings.Repeat("\xff", 9) + "\x02" + body[1:], mixed(7, 60), strings.Repeat("\x00", 60),
	} {
		out = append(out, sealedBy(wrong))
	}
	return append(out, mixed(1, impl.SectorSize), strings.Repeat("\x00", impl.SectorSize), good+"\x00", "\x00"+good)
}

func TestAreaReadOfManyHeads(t *testing.T) {
	for _, sectors := range []int{1, 2, 3, 5, impl.MaxSectors} {
		for _, full := range []bool{true, false} {
			d := impl.DiskNew(int64(sectors))
			for at := range d.Sectors {
				if full || at%2 == 1 {
					d.Sectors[at] = mixed(uint64(at), impl.SectorSize)
				}
			}
			for i, head := range edgeHeads() {
				if len(head) > impl.SectorSize {
					t.Fatalf("the head %d is too long", i)
				}
				what := fmt.Sprintf("the head %q on %d sectors", head, sectors)
				flushed := withSector(d, 0, head)
				wantArea(t, what, impl.AreaRead(flushed), areaIn(flushed))
				pending := withPending(d, impl.Pending{At: 0, Data: "old"}, impl.Pending{At: 0, Data: head})
				wantArea(t, what+", pending", impl.AreaRead(pending), areaIn(pending))
			}
		}
	}
}

// The codes that the document names, each by hand.
func TestAreaReadFaults(t *testing.T) {
	d := areaOf(5, 3, 1, mixed(1, 100))
	body := numsBytes(3, 1, 100)
	for head, code := range map[string]int64{
		"":                                impl.ErrShort,
		"abc":                             impl.ErrShort,
		"abcd":                            impl.ErrSum,
		"\x00\x00\x00\x00":                impl.ErrSyntax,
		turned(headBytes(3, 1, 100), 0):   impl.ErrSum,
		turned(headBytes(3, 1, 100), 7):   impl.ErrSum,
		headBytes(3, 1, 100) + "\x00":     impl.ErrSum,
		turned(headBytes(-1, 2, 129), 1):  impl.ErrSum,
		headBytes(-1, 1, 100):             impl.ErrSyntax,
		headBytes(3, 2, 100):              impl.ErrSyntax,
		headBytes(3, -1, 100):             impl.ErrSyntax,
		headBytes(3, 1, -1):               impl.ErrSyntax,
		headBytes(3, 1, 129):              impl.ErrSyntax,
		headBytes(3, 1, math.MaxInt64):    impl.ErrSyntax,
		sealedBy(body + "\x00"):           impl.ErrSyntax,
		sealedBy(body[:len(body)-1]):      impl.ErrSyntax,
		sealedBy(numsBytes(3, 1)):         impl.ErrSyntax,
		sealedBy("\x86\x00" + body[1:]):   impl.ErrSyntax,
		headBytes(3, 1, 101):              impl.ErrSum,
		headBytes(math.MaxInt64, 1, 128):  impl.ErrSum,
		sealedBy(numsBytes(3, 1, 100, 0)): impl.ErrSyntax,
	} {
		wantAreaCode(t, fmt.Sprintf("the head %q", head), impl.AreaRead(withSector(d, 0, head)), code)
		for _, text := range []string{"", "new", mixed(1, 129), mixed(1, impl.MaxBytes)} {
			for _, steps := range []int64{-1, 0, 1, allSteps} {
				wantAreaCode(t, fmt.Sprintf("put under the head %q", head), impl.AreaPut(withSector(d, 0, head), text, steps), code)
			}
		}
	}
	for _, wrong := range wrongDisks() {
		wantAreaCode(t, "a wrong disk", impl.AreaRead(wrong), impl.ErrForm)
	}
}

// A wrong disk is told ahead of its head, a head ahead of its side.
func TestAreaReadFaultsInOrder(t *testing.T) {
	d := impl.DiskNew(5)
	wrong := withPending(d, impl.Pending{At: 5})
	for head, code := range map[string]int64{"": impl.ErrShort, "abcd": impl.ErrSum, headBytes(0, 2, 1): impl.ErrSyntax, headBytes(0, 0, 129): impl.ErrSyntax, headBytes(0, 0, 1): impl.ErrSum} {
		wantAreaCode(t, "an empty side", impl.AreaRead(withSector(d, 0, head)), code)
		wantAreaCode(t, "a wrong disk", impl.AreaRead(withSector(wrong, 0, head)), impl.ErrForm)
	}
}

// Each sector that the text needs is made shorter, flushed and pending.
func TestAreaReadOfSidesThatLack(t *testing.T) {
	for _, sectors := range []int{3, 5, 8, impl.MaxSectors} {
		for side := range 2 {
			for _, text := range putTexts(impl.DiskNew(int64(sectors))) {
				d := areaOf(sectors, 9, side, text)
				for i := range needed(text) {
					at := 1 + side*half(d) + i
					short := d.Sectors[at][1:]
					wantAreaCode(t, "a byte lacks", impl.AreaRead(withSector(d, at, short)), impl.ErrSum)
					wantAreaCode(t, "all of it lacks", impl.AreaRead(withSector(d, at, "")), impl.ErrSum)
					pending := withPending(withSector(d, at, short), impl.Pending{At: int64(at), Data: d.Sectors[at]})
					wantRead(t, "what lacked is pending", pending, text, 9)
					wantAreaCode(t, "a byte lacks, pending", impl.AreaRead(withPending(d, impl.Pending{At: int64(at), Data: short})), impl.ErrSum)
				}
			}
		}
	}
}

// More bytes than the head says are there: they are no part of the text.
func TestAreaReadOfSidesThatHaveMore(t *testing.T) {
	for _, sectors := range []int{3, 4, 6, impl.MaxSectors} {
		for side := range 2 {
			d := areaOf(sectors, 2, side, mixed(4, room(impl.DiskNew(int64(sectors)))))
			whole := areaIn(d).Text
			for size := range len(whole) + 1 {
				less := withSector(d, 0, headBytes(2, int64(side), int64(size)))
				wantRead(t, "the first bytes of a full side", less, whole[:size], 2)
			}
			wantAreaCode(t, "more than there is room for", impl.AreaRead(withSector(d, 0, headBytes(2, int64(side), int64(len(whole)+1)))), impl.ErrSyntax)
		}
	}
}

// Bytes behind a sector that has too few are not the text's, however many the
// side has together.
func TestAreaReadOfSidesThatAreNotFull(t *testing.T) {
	d := impl.Disk{Sectors: []string{"", "no", "no", "no", "abc", "", "defgh", "no"}}
	for size := range int64(room(d) + 1) {
		side := withSector(d, 0, headBytes(1, 1, size))
		if size <= 3 {
			wantRead(t, "in the first sector", side, "abc"[:size], 1)
			continue
		}
		wantAreaCode(t, "not in the first sector", impl.AreaRead(side), impl.ErrSum)
		for _, text := range []string{"", "new", mixed(1, room(d)+1)} {
			for _, steps := range []int64{-1, 0, 1, allSteps} {
				wantAreaCode(t, "put where a side lacks", impl.AreaPut(side, text, steps), impl.ErrSum)
			}
		}
	}
}

// wantSectorNeeded: of the sector there the text needs its first bytes, so many.
func wantSectorNeeded(t *testing.T, d impl.Disk, at int, need int, text string) {
	t.Helper()
	for _, size := range []int{0, 1, need - 1, need, min(need+1, impl.SectorSize), impl.SectorSize} {
		cut := d.Sectors[at][:size]
		flushed := withSector(d, at, cut)
		pending := withPending(d, impl.Pending{At: int64(at), Data: "old"}, impl.Pending{At: int64(at), Data: cut})
		for _, disk := range []impl.Disk{flushed, pending} {
			if size < need {
				wantAreaCode(t, "a sector among full ones lacks", impl.AreaRead(disk), impl.ErrSum)
				wantAreaCode(t, "put where one lacks", impl.AreaPut(disk, "new", allSteps), impl.ErrSum)
				continue
			}
			wantRead(t, "a sector has enough", disk, text, 4)
			wantArea(t, "put where all have enough", impl.AreaPut(disk, "new", allSteps), putInto(disk, "new", allSteps))
		}
	}
	healed := withPending(withSector(d, at, ""), impl.Pending{At: int64(at), Data: d.Sectors[at]})
	wantRead(t, "what lacked is pending", healed, text, 4)
}

// Each sector that the text needs has too few bytes, just enough and more, while
// all others of the disk are full.
func TestAreaReadOfSectorsAmongFullOnes(t *testing.T) {
	for _, sectors := range []int{3, 4, 7, 8, impl.MaxSectors} {
		for side := range 2 {
			whole := mixed(5, room(impl.DiskNew(int64(sectors))))
			full := areaOf(sectors, 4, side, whole)
			for _, other := range putTexts(full) {
				text := whole[:len(other)]
				d := withSector(full, 0, headBytes(4, int64(side), int64(len(text))))
				for i := range needed(text) {
					wantSectorNeeded(t, d, 1+side*half(d)+i, min(len(text)-i*impl.SectorSize, impl.SectorSize), text)
				}
			}
		}
	}
}

// A sector that the text does not need may have any bytes, or none.
func TestAreaReadOfSectorsThatAreNotNeeded(t *testing.T) {
	for side := range 2 {
		for _, text := range putTexts(impl.DiskNew(9)) {
			d := areaOf(9, 6, side, text)
			for i := needed(text); i < half(d); i++ {
				for _, data := range []string{"", "x", mixed(1, 63), mixed(2, impl.SectorSize)} {
					wantRead(t, "behind the text", withSector(d, 1+side*half(d)+i, data), text, 6)
				}
			}
		}
	}
}

// Of an even number of sectors the last one is in no side.
func TestSectorsOfNoSide(t *testing.T) {
	for _, sectors := range []int{4, 6, impl.MaxSectors} {
		d := withSector(impl.AreaFormat(impl.DiskNew(int64(sectors))).Disk, sectors-1, "over")
		for gen := range int64(4) {
			text := mixed(uint64(gen), room(d))
			d = impl.AreaPut(d, text, allSteps).Disk
			wantRead(t, "a full side", d, text, gen+1)
			wantBytes(t, "the last sector", d.Sectors[sectors-1], "over")
		}
	}
}

// Promise 8.

func TestWhatIsPutIsRead(t *testing.T) {
	for _, d := range formatted(t) {
		wantRead(t, "just formatted", d, "", 0)
		for _, text := range putTexts(d) {
			got := impl.AreaPut(d, text, allSteps)
			wantArea(t, "put", got, putInto(d, text, allSteps))
			wantRead(t, "read behind a put", got.Disk, text, 1)
			wantDisk(t, "all of it is flushed", impl.DiskCrash(got.Disk, nil), got.Disk)
			exact := impl.AreaPut(d, text, int64(needed(text)+3))
			wantArea(t, "put with just all steps", exact, got)
			wantArea(t, "put with a great many steps", impl.AreaPut(d, text, math.MaxInt64), got)
		}
		wantAreaCode(t, "one byte too many", impl.AreaPut(d, mixed(1, room(d)+1), allSteps), impl.ErrFull)
		wantAreaCode(t, "a sector too many", impl.AreaPut(d, mixed(1, room(d)+impl.SectorSize), allSteps), impl.ErrFull)
		wantAreaCode(t, "far too many", impl.AreaPut(d, mixed(1, impl.MaxBytes), allSteps), impl.ErrFull)
		wantAreaCode(t, "more than a text may have", impl.AreaPut(d, mixed(1, impl.MaxBytes+1), allSteps), impl.ErrSize)
	}
}

// Texts go to one side and the other, long and short in turn.
func TestTextsArePutOneBehindTheOther(t *testing.T) {
	for _, d := range formatted(t) {
		texts := putTexts(d)
		for i := range 2*len(texts) + 1 {
			text := texts[(i*5)%len(texts)]
			before := areaIn(d)
			got := impl.AreaPut(d, text, allSteps)
			wantArea(t, "one more", got, putInto(d, text, allSteps))
			wantRead(t, "one more is read", got.Disk, text, before.Gen+1)
			if side := sideIn(got.Disk); side != (i+1)%2 {
				t.Errorf("the text %d is on the side %d", i+1, side)
			}
			d = got.Disk
		}
		wantRead(t, "all of them", d, areaIn(d).Text, int64(2*len(texts)+1))
	}
}

// A text's bytes are any bytes, also a head's.
func TestAnyBytesArePut(t *testing.T) {
	d := impl.AreaFormat(impl.DiskNew(9)).Disk
	var every []byte
	for b := range 256 {
		every = append(every, byte(b))
	}
	for i, text := range []string{string(every), headBytes(5, 0, 3), strings.Repeat("\x00", 200), strings.Repeat("\xff", 64), "\x00", "\n"} {
		d = impl.AreaPut(d, text, allSteps).Disk
		wantRead(t, "any bytes", d, text, int64(i+1))
	}
}

func TestAreaPutAtTheLastNumbers(t *testing.T) {
	for side := range 2 {
		last := areaOf(5, impl.MaxTime-1, side, "old")
		put := impl.AreaPut(last, "new", allSteps)
		wantArea(t, "the last number", put, putInto(last, "new", allSteps))
		wantRead(t, "the last number", put.Disk, "new", impl.MaxTime)
		first := impl.AreaPut(areaOf(5, 0, side, "old"), "new", allSteps).Disk
		wantRead(t, "the first number", first, "new", 1)
		for _, gen := range []int64{impl.MaxTime, impl.MaxTime + 1, 1 << 32, math.MaxInt64 - 1, math.MaxInt64} {
			d := areaOf(5, gen, side, "old")
			for _, text := range []string{"", "new", mixed(1, 128), mixed(1, 129)} {
				for _, steps := range []int64{math.MinInt64, -1, 0, 1, allSteps} {
					wantAreaCode(t, "no next number", impl.AreaPut(d, text, steps), impl.ErrFull)
				}
			}
			wantRead(t, "what is there", d, "old", gen)
		}
	}
}

// The faults in the order in which they are named, whatever the steps.
func TestAreaPutFaultsInOrder(t *testing.T) {
	long, full := mixed(1, impl.MaxBytes+1), mixed(2, 129)
	bare := impl.DiskNew(5)
	lacking := withSector(bare, 0, headBytes(impl.MaxTime, 0, 9))
	busy := withSector(diskOf(3, 5, 0), 0, headBytes(0, 0, 0))
	for range mostPending {
		busy.Pending = append(busy.Pending, impl.Pending{At: 4, Data: "x"})
	}
	for _, steps := range []int64{math.MinInt64, -1, 0, 1, 2, allSteps, math.MaxInt64} {
		for _, d := range append(wrongDisks(), bare, lacking, busy, areaOf(5, impl.MaxTime, 0, "old")) {
			wantAreaCode(t, "far too long", impl.AreaPut(d, long, steps), impl.ErrSize)
		}
		for _, d := range wrongDisks() {
			for _, text := range []string{"", "x", full, mixed(1, impl.MaxBytes)} {
				wantAreaCode(t, "a wrong disk", impl.AreaPut(d, text, steps), impl.ErrForm)
			}
		}
		wantAreaCode(t, "no head, and no room", impl.AreaPut(bare, full, steps), impl.ErrShort)
		wantAreaCode(t, "a side that lacks, and no next number", impl.AreaPut(lacking, full, steps), impl.ErrSum)
		wantAreaCode(t, "no room", impl.AreaPut(busy, full, steps), impl.ErrFull)
	}
}

// The steps may tell a code of their own: just those that are done.
func TestAreaPutWithManyPending(t *testing.T) {
	base := areaOf(9, 5, 0, mixed(1, 200))
	for count := mostPending - 5; count <= mostPending; count++ {
		d := copyOf(base)
		for i := range count {
			d.Pending = append(d.Pending, impl.Pending{At: int64(5 + i%4), Data: mixed(uint64(i), i%65)})
		}
		for _, text := range []string{"", "x", mixed(2, 64), mixed(3, 65), mixed(4, 200), mixed(5, 256)} {
			for steps := int64(-1); steps <= 8; steps++ {
				got := impl.AreaPut(d, text, steps)
				wantArea(t, "many pending", got, putInto(d, text, steps))
				if fits := count+min(int(steps), needed(text)) <= mostPending; fits != (got.Code == impl.OK) {
					t.Errorf("%d pending, a text of %d bytes, %d steps: code %d", count, len(text), steps, got.Code)
				}
			}
		}
	}
}

// Promise 9.

// manyKeeps: none, all, each one alone, all but one, and lists that are longer.
func manyKeeps(pending int) [][]int64 {
	out := [][]int64{nil, make([]int64, pending), slices.Repeat([]int64{1}, pending), slices.Repeat([]int64{1}, pending+3)}
	for i := range pending {
		alone, but := make([]int64, pending), slices.Repeat([]int64{1}, pending)
		alone[i], but[i] = 1, 0
		out = append(out, alone, alone[:i+1], but, but[:i+1], but[:i])
	}
	return out
}

// areasWithoutPending: both sides, of no text, a short and a full one.
func areasWithoutPending() []impl.Disk {
	var out []impl.Disk
	for _, sectors := range []int{3, 4, 5, 8, 11, impl.MaxSectors} {
		fresh := impl.AreaFormat(impl.DiskNew(int64(sectors))).Disk
		once := impl.AreaPut(fresh, mixed(8, room(fresh)), allSteps).Disk
		twice := impl.AreaPut(once, mixed(9, 40), allSteps).Disk
		out = append(out, fresh, once, twice, areaOf(sectors, impl.MaxTime-1, 1, mixed(7, 63)), areaOf(sectors, 0, 1, ""))
	}
	return out
}

func TestWhereverThePowerGoes(t *testing.T) {
	for _, d := range areasWithoutPending() {
		was := impl.AreaRead(d)
		for _, text := range putTexts(d) {
			all := int64(needed(text) + 3)
			for steps := int64(-2); steps <= all+2; steps++ {
				got := impl.AreaPut(d, text, steps)
				wantArea(t, "some steps", got, putInto(d, text, steps))
				for _, keep := range manyKeeps(len(got.Disk.Pending)) {
					behind := impl.AreaRead(impl.DiskCrash(got.Disk, keep))
					isOld := behind.Text == was.Text && behind.Gen == was.Gen
					isNew := behind.Text == text && behind.Gen == was.Gen+1
					if behind.Code != impl.OK || !isOld && !isNew || isOld && steps >= all || isNew && steps < all-1 {
						t.Fatalf("%d sectors, %d bytes, %d of %d steps, keep %d: code %d, gen %d, %d bytes",
							len(d.Sectors), len(text), steps, all, keep, behind.Code, behind.Gen, len(behind.Text))
					}
				}
			}
		}
	}
}

// Just the head, kept or lost, tells which text is there.
func TestTheHeadTurnsTheSide(t *testing.T) {
	for _, d := range areasWithoutPending() {
		was := impl.AreaRead(d)
		for _, text := range putTexts(d) {
			head := impl.AreaPut(d, text, int64(needed(text)+2)).Disk
			if len(head.Pending) != 1 || head.Pending[0].At != 0 {
				t.Fatalf("behind the head %.120q is pending", fmt.Sprint(head.Pending))
			}
			wantRead(t, "read ahead of the last flush", head, text, was.Gen+1)
			lost, kept := impl.DiskCrash(head, []int64{0}), impl.DiskCrash(head, []int64{1})
			wantRead(t, "the head is lost", lost, was.Text, was.Gen)
			wantRead(t, "the head is kept", kept, text, was.Gen+1)
		}
	}
}

func TestNoStepsLeaveTheDisk(t *testing.T) {
	for _, d := range append(areasWithoutPending(), formatted(t)...) {
		for _, steps := range []int64{0, -1, -3, -allSteps, math.MinInt64, math.MinInt64 + 1} {
			for _, text := range putTexts(d) {
				wantArea(t, "no steps", impl.AreaPut(d, text, steps), impl.AreaOut{Disk: d})
			}
		}
	}
}

// Power goes many times; what was last there is put over again and again.
func TestPowerGoesAgainAndAgain(t *testing.T) {
	for _, sectors := range []int64{3, 4, 7, 12} {
		d := impl.AreaFormat(impl.DiskNew(sectors)).Disk
		text, gen, turns := "", int64(0), 0
		for i := range 400 {
			dice := []byte(mixed(uint64(i)+uint64(sectors)<<20, 12))
			next := mixed(uint64(i), int(dice[0])*room(d)/255)
			steps := int64(dice[1]) % int64(needed(next)+5)
			got := impl.AreaPut(d, next, steps)
			wantArea(t, "some steps", got, putInto(d, next, steps))
			var keep []int64
			for j := range got.Disk.Pending {
				keep = append(keep, int64(dice[2+j%10]>>(j/10))&1)
			}
			d = impl.DiskCrash(got.Disk, keep)
			if behind := impl.AreaRead(d); behind.Gen == gen+1 && steps >= int64(needed(next)+2) {
				text, gen, turns = next, gen+1, turns+1
			}
			wantRead(t, "behind a crash", d, text, gen)
		}
		if turns < 50 || turns > 350 {
			t.Errorf("%d sectors: of 400 texts %d came to be there", sectors, turns)
		}
	}
}

// What is handed in stays, and what was handed back.

func areasFrom(d impl.Disk) []impl.AreaOut {
	out := []impl.AreaOut{impl.AreaFormat(d), impl.AreaRead(d)}
	for _, text := range []string{"", "new", mixed(5, 64)} {
		for _, steps := range []int64{-1, 0, 1, 2, 3, allSteps} {
			out = append(out, impl.AreaPut(d, text, steps))
		}
	}
	return out
}

func someAreas(t *testing.T) []impl.Disk {
	t.Helper()
	lacking := withSector(impl.DiskNew(5), 0, headBytes(1, 0, 5))
	return append(formatted(t)[:12], lacking, impl.DiskNew(4), areaOf(6, 3, 1, mixed(2, 100)), areaOf(5, impl.MaxTime, 0, "old"))
}

func TestAreasAreLeftAlone(t *testing.T) {
	for _, d := range append(wrongDisks(), someAreas(t)...) {
		given := roomyDisk(d)
		impl.AreaRoom(given)
		first := areasFrom(given)
		var kept []impl.Disk
		for _, out := range first {
			kept = append(kept, copyOf(out.Disk))
		}
		for _, out := range first {
			for _, later := range areasFrom(out.Disk) {
				spoil(later.Disk)
			}
		}
		for i := range first {
			wantDisk(t, "what was told before", first[i].Disk, kept[i])
			spoil(first[i].Disk)
		}
		wantDiskUntouched(t, "a disk", given, d)
	}
}

// No text that is told begins within one that was handed in, or within another
// that is told.
func TestAreasAreNewMemory(t *testing.T) {
	text := mixed(6, 100)
	for _, d := range []impl.Disk{areaOf(6, 3, 1, mixed(2, 100)), withPending(areaOf(5, 3, 0, mixed(2, 64)), impl.Pending{At: 4, Data: "more"})} {
		given := append(textsOf(d), text)
		outs := areasFrom(d)
		for steps := int64(-1); steps <= 6; steps++ {
			outs = append(outs, impl.AreaPut(d, text, steps))
		}
		for call, out := range outs {
			told := textsOf(out.Disk)
			if out.Text != "" {
				told = append(told, out.Text)
			}
			for i := range told {
				for _, other := range append(slices.Clone(given), told[:i]...) {
					if shares(told[i], other) || shares(other, told[i]) {
						t.Errorf("call %d answers with memory that is not new", call)
					}
				}
			}
		}
	}
}

// Nothing is kept: the same calls tell the same, whatever came between.
func TestAreasHaveNoMemory(t *testing.T) {
	d := areaOf(6, 3, 1, mixed(2, 100))
	before := areasFrom(d)
	for _, other := range append(wrongDisks(), someAreas(t)...) {
		areasFrom(other)
	}
	for i, again := range areasFrom(d) {
		wantArea(t, "the same again", again, before[i])
	}
}
