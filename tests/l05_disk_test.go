package tests

import (
	"fmt"
	"math"
	"slices"
	"strings"
	"testing"

	"loop.example/g00633/impl"
)

const mostPending = 200

// diskOf has sectors and pending of all lengths that may be, the same of the
// same numbers; with more pending than sectors some are at one sector.
func diskOf(seed uint64, sectors, pending int) impl.Disk {
	var d impl.Disk
	for i := range sectors {
		d.Sectors = append(d.Sectors, mixed(seed+uint64(i), (i*29+int(seed))%(impl.SectorSize+1)))
	}
	for i := range pending {
		at := int64(mixed(seed+uint64(i), 1)[0]) % int64(sectors)
		d.Pending = append(d.Pending, impl.Pending{At: at, Data: mixed(seed+1000+uint64(i), (i*23+int(seed))%(impl.SectorSize+1))})
	}
	return d
}

// rightDisks: of one, some and all sectors, with none, some and many pending.
func rightDisks() []impl.Disk {
	var out []impl.Disk
	for i, sectors := range []int{1, 2, 3, 17, impl.MaxSectors - 1, impl.MaxSectors} {
		out = append(out, impl.DiskNew(int64(sectors)))
		for _, pending := range []int{0, 1, 2, 7, 64, mostPending - 1, mostPending} {
			out = append(out, diskOf(uint64(100*i+pending), sectors, pending))
		}
	}
	atOne := diskOf(7, 5, 0)
	for _, data := range []string{"first", "", "third", strings.Repeat("x", impl.SectorSize), "", "last"} {
		atOne.Pending = append(atOne.Pending, impl.Pending{At: 3, Data: data})
	}
	emptyLast := copyOf(atOne)
	emptyLast.Pending = append(emptyLast.Pending, impl.Pending{At: 3})
	return append(out, atOne, emptyLast)
}

func copyOf(d impl.Disk) impl.Disk {
	return impl.Disk{Sectors: slices.Clone(d.Sectors), Pending: slices.Clone(d.Pending)}
}

func withSector(d impl.Disk, at int, text string) impl.Disk {
	out := copyOf(d)
	out.Sectors[at] = text
	return out
}

func withPending(d impl.Disk, pending ...impl.Pending) impl.Disk {
	out := copyOf(d)
	out.Pending = append(out.Pending, pending...)
	return out
}

// wrongDisks: each has one fault.
func wrongDisks() []impl.Disk {
	long := mixed(9, impl.SectorSize+1)
	five, full := diskOf(3, 5, 4), diskOf(4, impl.MaxSectors, mostPending)
	tooMany := impl.Disk{Sectors: make([]string, impl.MaxSectors+1)}
	out := []impl.Disk{
		{},
		{Sectors: []string{}},
		{Pending: []impl.Pending{{}}},
		tooMany,
		{Sectors: make([]string, impl.MaxList+1)},
		withPending(tooMany, impl.Pending{At: impl.MaxSectors, Data: "x"}),
		withPending(full, impl.Pending{At: 0, Data: "x"}),
		withPending(full, full.Pending...),
		withPending(five, impl.Pending{At: 2, Data: long}),
		withPending(five, impl.Pending{At: 2, Data: mixed(1, impl.MaxBytes+1)}),
		withPending(five, impl.Pending{At: 2, Data: long}, impl.Pending{At: 2, Data: "x"}),
	}
	for at := range five.Sectors {
		out = append(out, withSector(five, at, long))
	}
	out = append(out, withSector(five, 1, mixed(1, impl.MaxBytes+1)), withSector(full, impl.MaxSectors-1, long))
	for _, at := range wrongPlaces(5) {
		wrong := impl.Pending{At: at, Data: "x"}
		out = append(out, withPending(five, wrong), withPending(five, wrong, impl.Pending{At: 1, Data: "y"}))
	}
	return out
}

// wrongPlaces: some of them are right ones when they are cut to fewer bits.
func wrongPlaces(sectors int64) []int64 {
	return []int64{-1, sectors, sectors + 1, -sectors, 256, 1 << 16, 1 << 32, 1<<32 + 1, math.MinInt64, math.MaxInt64}
}

// keeps: empty, shorter than, as long as and longer than the pending, of
// numbers below 0, 0, 1 and above.
func keeps(pending int) [][]int64 {
	out := [][]int64{nil, {}, {0}, {1}, {-1}, {2}, {math.MaxInt64}, {math.MinInt64}, {1 << 32}, {0, 1}, {1, 0}, {-1, 1, 0, 7}}
	for _, size := range []int{pending - 1, pending, pending + 1, impl.MaxList} {
		if size < 1 || size > impl.MaxList {
			continue
		}
		all, none, below, turns := make([]int64, size), make([]int64, size), make([]int64, size), make([]int64, size)
		for i := range size {
			all[i], below[i] = 1, -1
			turns[i] = int64(mixed(uint64(i), 1)[0])%5 - 2
		}
		last := slices.Clone(none)
		last[size-1] = 1
		butLast := slices.Clone(all)
		butLast[size-1] = 0
		out = append(out, all, none, below, turns, last, butLast)
	}
	return out
}

// readIn and crashed are a second reckoning: from behind, and one by one.
func readIn(d impl.Disk, at int64) string {
	for i := len(d.Pending) - 1; i >= 0; i-- {
		if d.Pending[i].At == at {
			return d.Pending[i].Data
		}
	}
	return d.Sectors[at]
}

func crashed(d impl.Disk, keep []int64) impl.Disk {
	out := slices.Clone(d.Sectors)
	for i, k := range keep {
		if k > 0 && i < len(d.Pending) {
			out[d.Pending[i].At] = d.Pending[i].Data
		}
	}
	return impl.Disk{Sectors: out}
}

func allRead(t *testing.T, d impl.Disk) []string {
	t.Helper()
	var out []string
	for at := range int64(len(d.Sectors)) {
		got := impl.DiskRead(d, at)
		if got.Code != impl.OK {
			t.Errorf("the sector %d of %d: code %d", at, len(d.Sectors), got.Code)
		}
		out = append(out, got.Data)
	}
	return out
}

func sameDisk(a, b impl.Disk) bool {
	return slices.Equal(a.Sectors, b.Sectors) && slices.Equal(a.Pending, b.Pending)
}

func wantDisk(t *testing.T, what string, got, want impl.Disk) {
	t.Helper()
	if !sameDisk(got, want) {
		t.Errorf("%s: got %.120q, want %.120q", what, fmt.Sprint(got), fmt.Sprint(want))
	}
}

func wantDiskOut(t *testing.T, what string, got, want impl.DiskOut) {
	t.Helper()
	if got.Code != want.Code || got.Data != want.Data {
		t.Errorf("%s: got code %d and %q, want %d and %q", what, got.Code, got.Data, want.Code, want.Data)
	}
	wantDisk(t, what, got.Disk, want.Disk)
}

func wantDiskCode(t *testing.T, what string, got impl.DiskOut, code int64) {
	t.Helper()
	wantDiskOut(t, what, got, impl.DiskOut{Code: code})
}

func TestDiskConstants(t *testing.T) {
	if impl.MaxSectors != 64 || impl.SectorSize != 64 {
		t.Error("a limit is not the document's")
	}
}

func TestDiskRight(t *testing.T) {
	for i, d := range rightDisks() {
		if !impl.DiskRight(d) {
			t.Errorf("the right disk %d is not right", i)
		}
	}
	for i, d := range wrongDisks() {
		if impl.DiskRight(d) {
			t.Errorf("the wrong disk %d is right", i)
		}
	}
	full := strings.Repeat("\xff", impl.SectorSize)
	for _, sectors := range []int{1, 2, impl.MaxSectors} {
		d := impl.Disk{Sectors: slices.Repeat([]string{full}, sectors)}
		last := impl.Pending{At: int64(sectors) - 1, Data: full}
		for _, count := range []int{mostPending - 1, mostPending, mostPending + 1} {
			d.Pending = slices.Repeat([]impl.Pending{last}, count)
			if impl.DiskRight(d) != (count <= mostPending) {
				t.Errorf("%d sectors, %d pending: right is %t", sectors, count, count > mostPending)
			}
		}
	}
}

func TestDiskNew(t *testing.T) {
	for sectors := int64(1); sectors <= impl.MaxSectors; sectors++ {
		d := impl.DiskNew(sectors)
		wantDisk(t, "a new one", d, impl.Disk{Sectors: make([]string, sectors)})
		if !impl.DiskRight(d) {
			t.Errorf("a new one of %d is not right", sectors)
		}
		wantTexts(t, "what a new one reads", allRead(t, d), make([]string, sectors))
	}
	for _, sectors := range []int64{0, -1, impl.MaxSectors + 1, -impl.MaxSectors, 256 + 1, 1<<32 + 1, math.MinInt64, math.MaxInt64} {
		wantDisk(t, "one of a wrong number", impl.DiskNew(sectors), impl.Disk{})
	}
}

func TestDiskRead(t *testing.T) {
	for _, d := range rightDisks() {
		for at := range int64(len(d.Sectors)) {
			wantDiskOut(t, "a sector", impl.DiskRead(d, at), impl.DiskOut{Disk: d, Data: readIn(d, at)})
		}
		for _, at := range wrongPlaces(int64(len(d.Sectors))) {
			wantDiskCode(t, "no such sector", impl.DiskRead(d, at), impl.ErrRange)
		}
	}
}

// The last one written is read, also if it is empty and the sector is not.
func TestDiskReadsTheLast(t *testing.T) {
	d := impl.Disk{Sectors: []string{"zero", "one", "two"}}
	for _, data := range []string{"a", "", "b", "b", "", "zero"} {
		d = impl.DiskWrite(d, 1, data).Disk
		wantTexts(t, "what is read", allRead(t, d), []string{"zero", data, "two"})
		wantTexts(t, "the sectors", d.Sectors, []string{"zero", "one", "two"})
	}
	d = impl.DiskWrite(d, 2, "").Disk
	wantTexts(t, "what is read", allRead(t, d), []string{"zero", "zero", ""})
}

func TestWhatIsWrittenIsRead(t *testing.T) {
	texts := []string{"", "x", "\x00", mixed(1, impl.SectorSize-1), mixed(2, impl.SectorSize)}
	for i, d := range rightDisks() {
		if len(d.Pending) == mostPending {
			continue
		}
		before := allRead(t, d)
		for at := range d.Sectors {
			text := texts[(i+at)%len(texts)]
			got := impl.DiskWrite(d, int64(at), text)
			want := withPending(d, impl.Pending{At: int64(at), Data: text})
			wantDiskOut(t, "written", got, impl.DiskOut{Disk: want})
			wantTexts(t, "read behind a write", allRead(t, got.Disk), putIn(before, at, text))
		}
	}
}

// Each sector is written its own text, in an order that is not theirs.
func TestSectorsAreTheirOwn(t *testing.T) {
	for _, sectors := range []int64{1, 2, 63, impl.MaxSectors} {
		d := impl.DiskNew(sectors)
		want := make([]string, sectors)
		for round := range int64(3) {
			for i := range sectors {
				at := (sectors - 1 - i + 5*round) % sectors
				want[at] = mixed(uint64(100*round+at), impl.SectorSize)
				d = impl.DiskWrite(d, at, want[at]).Disk
				wantTexts(t, "read", allRead(t, d), want)
			}
		}
		wantTexts(t, "flushed", impl.DiskFlush(d).Disk.Sectors, want)
	}
}

func TestDiskWriteUntilFull(t *testing.T) {
	for _, sectors := range []int64{1, 3, impl.MaxSectors} {
		d := impl.DiskNew(sectors)
		for i := range int64(mostPending) {
			got := impl.DiskWrite(d, i%sectors, mixed(uint64(i), 3))
			wantDiskOut(t, "one more", got, impl.DiskOut{Disk: withPending(d, impl.Pending{At: i % sectors, Data: mixed(uint64(i), 3)})})
			d = got.Disk
		}
		wantDiskCode(t, "one too many", impl.DiskWrite(d, 0, "x"), impl.ErrFull)
		wantDiskCode(t, "one too many, and empty", impl.DiskWrite(d, 0, ""), impl.ErrFull)
		if got := impl.DiskRead(d, 0); got.Code != impl.OK || got.Data != readIn(d, 0) {
			t.Errorf("a full one reads %q, code %d", got.Data, got.Code)
		}
		flushed := impl.DiskFlush(d).Disk
		wantDiskOut(t, "room again", impl.DiskWrite(flushed, 0, "x"), impl.DiskOut{Disk: withPending(flushed, impl.Pending{Data: "x"})})
	}
}

func TestDiskWriteEdges(t *testing.T) {
	d, full := diskOf(1, 5, 4), diskOf(2, 5, mostPending)
	for _, size := range []int{impl.SectorSize + 1, impl.SectorSize + 2, 256, impl.MaxBytes - 1, impl.MaxBytes} {
		data := mixed(1, size)
		wantDiskCode(t, "data too long", impl.DiskWrite(d, 0, data), impl.ErrForm)
		wantDiskCode(t, "data too long, no such sector", impl.DiskWrite(d, 5, data), impl.ErrForm)
		wantDiskCode(t, "data too long, and full", impl.DiskWrite(full, 0, data), impl.ErrForm)
		wantDiskCode(t, "data too long, no such sector, and full", impl.DiskWrite(full, -1, data), impl.ErrForm)
	}
	for _, at := range wrongPlaces(5) {
		wantDiskCode(t, "no such sector", impl.DiskWrite(d, at, "x"), impl.ErrRange)
		wantDiskCode(t, "no such sector, a full one's text", impl.DiskWrite(d, at, mixed(1, impl.SectorSize)), impl.ErrRange)
		wantDiskCode(t, "no such sector, and full", impl.DiskWrite(full, at, "x"), impl.ErrRange)
	}
	for at := range int64(5) {
		wantDiskCode(t, "full", impl.DiskWrite(full, at, mixed(1, impl.SectorSize)), impl.ErrFull)
	}
	for _, size := range []int{impl.MaxBytes + 1, 2 * impl.MaxBytes} {
		data := mixed(1, size)
		for _, disk := range append(wrongDisks(), d, full) {
			wantDiskCode(t, "far too long", impl.DiskWrite(disk, 0, data), impl.ErrSize)
			wantDiskCode(t, "far too long, no such sector", impl.DiskWrite(disk, -1, data), impl.ErrSize)
		}
	}
}

func TestWrongDisks(t *testing.T) {
	for _, d := range wrongDisks() {
		for _, at := range []int64{-1, 0, 1, 64, 65} {
			wantDiskCode(t, "read of a wrong one", impl.DiskRead(d, at), impl.ErrForm)
			for _, size := range []int{0, 1, impl.SectorSize, impl.SectorSize + 1, impl.MaxBytes} {
				wantDiskCode(t, "write to a wrong one", impl.DiskWrite(d, at, mixed(1, size)), impl.ErrForm)
			}
		}
		wantDiskCode(t, "flush of a wrong one", impl.DiskFlush(d), impl.ErrForm)
		for _, keep := range keeps(len(d.Pending)) {
			wantDisk(t, "crash of a wrong one", impl.DiskCrash(d, keep), d)
		}
		wantDisk(t, "crash of a wrong one, too long a list", impl.DiskCrash(d, make([]int64, impl.MaxList+1)), impl.Disk{})
	}
}

func TestFlushedIsThereBehindAnyCrash(t *testing.T) {
	for _, d := range rightDisks() {
		before := allRead(t, d)
		got := impl.DiskFlush(d)
		wantDiskOut(t, "flushed", got, impl.DiskOut{Disk: impl.Disk{Sectors: before}})
		wantTexts(t, "read behind a flush", allRead(t, got.Disk), before)
		wantDiskOut(t, "flushed again", impl.DiskFlush(got.Disk), got)
		for _, keep := range append(keeps(0), keeps(len(d.Pending))...) {
			behind := impl.DiskCrash(got.Disk, keep)
			wantDisk(t, "crashed behind a flush", behind, got.Disk)
			wantTexts(t, "read behind a crash", allRead(t, behind), before)
		}
	}
}

// What was flushed stays, whatever becomes of what was written behind it.
func TestFlushedStaysUnderLaterWrites(t *testing.T) {
	d := impl.DiskFlush(diskOf(5, 9, 40)).Disk
	for at := range int64(9) {
		later := impl.DiskWrite(impl.DiskWrite(d, at, "later").Disk, (at+1)%9, "beside").Disk
		wantDisk(t, "all lost", impl.DiskCrash(later, nil), d)
		wantDisk(t, "the second lost", impl.DiskCrash(later, []int64{1}), withSector(d, int(at), "later"))
		wantDisk(t, "the first lost", impl.DiskCrash(later, []int64{0, 1}), withSector(d, int(at+1)%9, "beside"))
		wantDisk(t, "none lost", impl.DiskCrash(later, []int64{1, 1}), impl.DiskFlush(later).Disk)
	}
}

func TestCrashLeavesWhatKeepNames(t *testing.T) {
	for _, d := range rightDisks() {
		for _, keep := range keeps(len(d.Pending)) {
			got := impl.DiskCrash(d, keep)
			wantDisk(t, "crashed", got, crashed(d, keep))
			if !impl.DiskRight(got) {
				t.Errorf("a crash with keep of %d leaves no right disk", len(keep))
			}
			wantDisk(t, "crashed again", impl.DiskCrash(got, keep), got)
		}
		wantDisk(t, "too long a list", impl.DiskCrash(d, make([]int64, impl.MaxList+1)), impl.Disk{})
		wantDisk(t, "too long a list of ones", impl.DiskCrash(d, slices.Repeat([]int64{1}, impl.MaxList+1)), impl.Disk{})
		all := impl.DiskCrash(d, slices.Repeat([]int64{1}, impl.MaxList))
		wantDisk(t, "all kept", all, impl.DiskFlush(d).Disk)
	}
}

// Of four pending, two of them at one sector, all that may be kept.
func TestCrashKeepsInOrder(t *testing.T) {
	d := impl.Disk{Sectors: []string{"a", "b", "c"}, Pending: []impl.Pending{{At: 1, Data: "p"}, {At: 2, Data: "q"}, {At: 1, Data: "r"}, {At: 1, Data: ""}}}
	for bits := range 16 {
		keep := make([]int64, 4)
		want := []string{"a", "b", "c"}
		for i, p := range d.Pending {
			keep[i] = int64(bits >> i & 1)
			if keep[i] == 1 {
				want[p.At] = p.Data
			}
		}
		wantDisk(t, "kept", impl.DiskCrash(d, keep), impl.Disk{Sectors: want})
	}
	wantTexts(t, "the first of one sector", impl.DiskCrash(d, []int64{1}).Sectors, []string{"a", "p", "c"})
	wantTexts(t, "the second of one sector", impl.DiskCrash(d, []int64{1, 0, 1}).Sectors, []string{"a", "r", "c"})
	wantTexts(t, "the empty one", impl.DiskCrash(d, []int64{1, 1, 1, 1}).Sectors, []string{"a", "", "q"})
}

func markedPending() impl.Pending {
	return impl.Pending{At: -7, Data: "mark"}
}

// roomyDisk is a copy with room behind both lists that is marked.
func roomyDisk(d impl.Disk) impl.Disk {
	pending := append(make([]impl.Pending, 0, len(d.Pending)+9), d.Pending...)
	for i := len(pending); i < cap(pending); i++ {
		pending[:cap(pending)][i] = markedPending()
	}
	return impl.Disk{Sectors: roomy(d.Sectors), Pending: pending}
}

func wantDiskUntouched(t *testing.T, what string, d, before impl.Disk) {
	t.Helper()
	wantDisk(t, what, d, before)
	wantUntouched(t, what, d.Sectors, before.Sectors)
	for _, p := range d.Pending[len(d.Pending):cap(d.Pending)] {
		if p != markedPending() {
			t.Errorf("%s: behind the pending stands %+v", what, p)
		}
	}
}

// disksFrom has what each call makes of a disk.
func disksFrom(d impl.Disk) []impl.Disk {
	return []impl.Disk{
		impl.DiskRead(d, 0).Disk,
		impl.DiskWrite(d, 0, "written").Disk,
		impl.DiskFlush(d).Disk,
		impl.DiskCrash(d, nil),
		impl.DiskCrash(d, []int64{1, 0, 1}),
		impl.DiskCrash(d, slices.Repeat([]int64{1}, impl.MaxList)),
	}
}

func spoil(d impl.Disk) {
	_ = append(d.Sectors, "spoiled")
	_ = append(d.Pending, impl.Pending{Data: "spoiled"})
	for i := range d.Sectors {
		d.Sectors[i] = "spoiled"
	}
	for i := range d.Pending {
		d.Pending[i] = impl.Pending{Data: "spoiled"}
	}
}

func TestDisksAreLeftAlone(t *testing.T) {
	for _, d := range append(wrongDisks(), rightDisks()...) {
		given := roomyDisk(d)
		impl.DiskRight(given)
		first := disksFrom(given)
		var kept []impl.Disk
		for _, disk := range first {
			kept = append(kept, copyOf(disk))
		}
		for _, disk := range first {
			for _, later := range disksFrom(disk) {
				spoil(later)
			}
		}
		for _, later := range disksFrom(given) {
			spoil(later)
		}
		for i := range first {
			wantDisk(t, "what was told before", first[i], kept[i])
			spoil(first[i])
		}
		wantDiskUntouched(t, "a disk", given, d)
	}
}

func TestKeepIsLeftAlone(t *testing.T) {
	for _, d := range []impl.Disk{diskOf(1, 5, 9), diskOf(2, 5, 0), {}} {
		for _, before := range append(keeps(9), make([]int64, impl.MaxList+1)) {
			keep := append(make([]int64, 0, len(before)+3), before...)
			clear(keep[len(keep):cap(keep)])
			spoil(impl.DiskCrash(d, keep))
			if !slices.Equal(keep, before) || slices.Max(append(keep[len(keep):cap(keep)], 0)) != 0 {
				t.Errorf("keep was %d, is %d", before, keep)
			}
		}
	}
}

// textsOf leaves out texts of one byte: the language has one memory for all
// that are alike.
func textsOf(d impl.Disk) []string {
	out := slices.Clone(d.Sectors)
	for _, p := range d.Pending {
		out = append(out, p.Data)
	}
	return slices.DeleteFunc(out, func(text string) bool { return len(text) < 2 })
}

// No text that is told begins within one that was handed in, or within another
// that is told.
func TestDisksAreNewMemory(t *testing.T) {
	wrong := diskOf(6, 7, 9)
	wrong.Pending[3].At = 7
	for _, d := range []impl.Disk{diskOf(1, 5, 0), diskOf(2, 6, 9), wrong} {
		given := textsOf(d)
		for call, got := range disksFrom(d) {
			told := textsOf(got)
			for i := range told {
				for _, text := range given {
					if shares(told[i], text) {
						t.Errorf("call %d answers with its argument's memory", call)
					}
				}
				for _, other := range told[:i] {
					if shares(told[i], other) || shares(other, told[i]) {
						t.Errorf("call %d answers twice with the same memory", call)
					}
				}
			}
		}
	}
}

func TestWhatIsReadIsNewMemory(t *testing.T) {
	d := diskOf(2, 6, 9)
	for at := range int64(6) {
		got := impl.DiskRead(d, at)
		for _, text := range append(textsOf(d), textsOf(got.Disk)...) {
			if shares(got.Data, text) {
				t.Errorf("what is read of the sector %d shares its memory", at)
			}
		}
	}
	data := mixed(3, impl.SectorSize)
	for _, text := range textsOf(impl.DiskWrite(d, 1, data).Disk) {
		if shares(text, data) {
			t.Error("what is written is kept as it was handed in")
		}
	}
}

// Nothing is kept: the same calls tell the same, whatever came between.
func TestDisksHaveNoMemory(t *testing.T) {
	d := diskOf(4, 8, 30)
	before, read := disksFrom(d), allRead(t, d)
	for _, other := range append(wrongDisks(), rightDisks()...) {
		disksFrom(other)
	}
	for i, again := range disksFrom(d) {
		wantDisk(t, "the same again", again, before[i])
	}
	wantTexts(t, "the same again", allRead(t, d), read)
	wantDisk(t, "a new one", impl.DiskNew(3), impl.Disk{Sectors: make([]string, 3)})
}
