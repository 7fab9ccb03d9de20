package log_test

import (
	"bytes"
	"fmt"
	"math/rand"
	"slices"
	"testing"

	"assize/api"
	"assize/disk"
	"assize/log"
)

// pick chooses a number from 0 to below another one.
type pick func(n int) int

// look tells all that can be seen of a disk.
func look(d *disk.Disk) string {
	s := fmt.Sprint(d.Size(), d.Used(), d.Writes(), d.Stopped())
	for _, name := range d.Names() {
		b, err := d.Read(name)
		s += fmt.Sprint("\n", name, b, err, d.Loose(name))
	}
	return s
}

// checkSeen fails if a disk is another one than it was.
func checkSeen(t testing.TB, d *disk.Disk, want string) {
	t.Helper()
	if got := look(d); got != want {
		t.Fatalf("%s\nnot\n%s", got, want)
	}
}

// world has a disk with logs, and a second disk to which the same is done by second logs.
type world struct {
	t           testing.TB
	pick        pick
	disk, other *disk.Disk
	logs        []*log.Log
	seconds     []*second
	seen        map[string]int
}

// newWorld makes one.
func newWorld(t testing.TB, p pick, size int) *world {
	return &world{t: t, pick: p, disk: made(t, size), other: made(t, size), seen: map[string]int{}}
}

// aName makes a name, mostly one of few that may be.
func (w *world) aName() string {
	if w.pick(40) == 0 {
		return []string{"", "L", "l/"}[w.pick(3)]
	}
	return []string{"l", "m", "l.1"}[w.pick(3)]
}

// someBytes makes a few bytes, sometimes such as a frame has.
func (w *world) someBytes() []byte {
	b := make([]byte, w.pick(20)>>w.pick(4))
	for i := range b {
		b[i] = []byte{byte(w.pick(256)), 0, 1, 255}[w.pick(4)]
	}
	switch w.pick(4) {
	case 0:
		return secondFrame(b)
	case 1:
		f := secondFrame(b)
		return f[:w.pick(len(f))]
	}
	return b
}

// both does a deed to both disks.
func (w *world) both(deed func(d *disk.Disk) api.Errno) {
	w.t.Helper()
	checkErr(w.t, deed(w.disk), deed(w.other))
}

// open opens a log.
func (w *world) open() {
	w.t.Helper()
	name, reserve := w.aName(), 1+w.pick(80)
	if w.pick(40) == 0 {
		reserve = []int{0, -1, 1 << 26, 1<<26 + 1}[w.pick(4)]
	}
	l, records, got := log.Open(w.disk, name, reserve)
	s, want := secondOpen(w.other, name, reserve)
	checkErr(w.t, got, want)
	w.seen[fmt.Sprint("open ", got)]++
	if want != api.OK {
		if l != nil || records != nil {
			w.t.Fatal(l, records)
		}
		return
	}
	if !sameRecords(records, s.records) {
		w.t.Fatalf("%v, not %v", records, s.records)
	}
	w.logs, w.seconds = append(w.logs, l), append(w.seconds, s)
	if len(w.logs) > 3 {
		w.logs, w.seconds = w.logs[1:], w.seconds[1:]
	}
}

// commit commits a record to a log.
func (w *world) commit() {
	w.t.Helper()
	if len(w.logs) == 0 {
		return
	}
	i := w.pick(len(w.logs))
	b := w.someBytes()
	if w.pick(60) == 0 {
		b = make([]byte, 65536+w.pick(2))
	}
	before := look(w.disk)
	got, want := w.logs[i].Commit(b), w.seconds[i].commit(b)
	checkErr(w.t, got, want)
	w.seen[fmt.Sprint("commit ", got)]++
	if want != api.OK && want != api.ErrDisk {
		checkSeen(w.t, w.disk, before)
	}
}

// foreign does to the disk what no log does.
func (w *world) foreign() {
	w.t.Helper()
	name, to, b, n := w.aName(), w.aName(), w.someBytes(), w.pick(30)
	switch w.pick(12) {
	case 0:
		w.both(func(d *disk.Disk) api.Errno { return d.Cut(name, n) })
	case 1:
		w.both(func(d *disk.Disk) api.Errno { return d.Rename(name, to) })
	case 2, 3:
		w.both(func(d *disk.Disk) api.Errno { return d.Remove(name) })
	case 4, 5:
		w.both(func(d *disk.Disk) api.Errno { return d.Append(name, b) })
	case 6, 7, 8:
		w.both(func(d *disk.Disk) api.Errno { return d.Stop(n % 6) })
	default:
		torn := []int{w.pick(30) - 1, w.pick(30) - 1}
		w.both(func(d *disk.Disk) api.Errno { return d.Crash(torn) })
	}
}

// check fails if what can be seen of the disk and its logs is not what the seconds tell.
func (w *world) check() {
	w.t.Helper()
	checkSeen(w.t, w.disk, look(w.other))
	for i, l := range w.logs {
		s := w.seconds[i]
		checkLog(w.t, l, len(s.records), s.size(), s.broken)
		for _, n := range []int{-1, 0, 1, s.reserve - s.size() - 13, s.reserve - s.size() - 12, s.reserve - s.size() - 11, 65536, 65537} {
			if l.Fits(n) != s.fits(n) {
				w.t.Fatalf("Fits(%d) = %v", n, l.Fits(n))
			}
		}
	}
}

// live does so many deeds.
func (w *world) live(deeds int) {
	w.t.Helper()
	for range deeds {
		switch x := w.pick(20); {
		case x < 5:
			w.open()
		case x < 15:
			w.commit()
		default:
			w.foreign()
		}
		w.check()
	}
}

// P21.1 to P21.3
func TestDeedsAtRandom(t *testing.T) {
	random := rand.New(rand.NewSource(1))
	seen := map[string]int{}
	for range 1500 {
		w := newWorld(t, random.Intn, 20+random.Intn(150))
		w.seen = seen
		w.live(60)
	}
	for _, x := range []string{
		"open error 0", "open error 2", "open error 12", "open error 13", "open error 14", "commit error 0",
		"commit error 3", "commit error 8", "commit error 12", "commit error 13", "commit error 14",
	} {
		if seen[x] < 50 {
			t.Errorf("%s: %d times", x, seen[x])
		}
	}
}

func FuzzDeeds(f *testing.F) {
	f.Add([]byte{9, 0, 0, 3, 70, 1, 5, 0, 9, 3, 1, 2, 3, 15, 1, 2, 3})
	f.Fuzz(func(t *testing.T, choices []byte) {
		deeds := min(len(choices), 100)
		newWorld(t, func(n int) int {
			if len(choices) == 0 {
				return 0
			}
			x := int(choices[0])
			choices = choices[1:]
			return x % n
		}, 90).live(deeds)
	})
}

// P21.4

// life is what is done to a log: it is opened, and records are committed, until the disk refuses one.
type life struct {
	reserve   int
	records   [][]byte
	committed [][]byte
	refused   [][]byte // the record whose commit the disk refused, if any
}

// play plays it.
func (x *life) play(t testing.TB, d *disk.Disk) {
	t.Helper()
	l, there, err := log.Open(d, "l", x.reserve)
	if err == api.ErrDisk {
		return
	}
	ok(t, err)
	checkKept(t, there, x)
	x.committed, x.refused = there, nil
	for _, b := range x.records {
		switch err := l.Commit(b); err {
		case api.OK:
			x.committed = append(x.committed, b)
		case api.ErrDisk:
			x.refused = [][]byte{b}
			return
		case api.ErrQuota:
		default:
			t.Fatal(err)
		}
		checkWithin(t, d, x.reserve)
	}
}

// checkKept fails if records are other ones than those that were committed, and the one that was refused, if it is there.
func checkKept(t testing.TB, there [][]byte, x *life) {
	t.Helper()
	if sameRecords(there, x.committed) {
		return
	}
	if !sameRecords(there, slices.Concat(x.committed, x.refused)) {
		t.Fatalf("%v; committed %v, refused %v", there, x.committed, x.refused)
	}
}

// checkWithin fails if a log's file has more bytes than its reserve.
func checkWithin(t testing.TB, d *disk.Disk, reserve int) {
	t.Helper()
	if b, _ := d.Read("l"); len(b) > reserve {
		t.Fatalf("%d bytes, above %d", len(b), reserve)
	}
}

// checkBehind fails if a log is not as it must be behind a crash; so many writes are done ahead of another crash.
func checkBehind(t testing.TB, d *disk.Disk, x *life, power int) {
	t.Helper()
	checkWithin(t, d, x.reserve)
	ok(t, d.Stop(power))
	log.Open(d, "l", x.reserve)
	checkWithin(t, d, x.reserve)
	ok(t, d.Crash(nil))
	_, there, err := log.Open(d, "l", x.reserve)
	ok(t, err)
	checkKept(t, there, x)
	checkWithin(t, d, x.reserve)
	before := look(d)
	opened(t, d, "l", x.reserve, there...)
	checkSeen(t, d, before)
}

// Each write of a life is the last one, and each part of what is loose then is kept.
func TestEachCrash(t *testing.T) {
	records := [][]byte{{1, 2}, nil, bytes.Repeat([]byte{3}, 20), {4}, {255, 255}, make([]byte, 9)}
	for _, reserve := range []int{11, 12, 30, 60, 120} {
		for power := range 14 {
			d := made(t, 200)
			ok(t, d.Stop(power))
			x := &life{reserve: reserve, records: records}
			x.play(t, d)
			for keep := range d.Loose("l") + 1 {
				for again := range 2 {
					c := d.Clone()
					ok(t, c.Crash([]int{keep}))
					checkBehind(t, c, x, again)
				}
			}
		}
	}
}

// Lives one behind the other, each ended by a crash.
func TestLivesAtRandom(t *testing.T) {
	random := rand.New(rand.NewSource(2))
	for range 2000 {
		d := made(t, 500)
		x := &life{reserve: 12 + random.Intn(300)}
		for range 1 + random.Intn(6) {
			x.records = nil
			for range random.Intn(6) {
				x.records = append(x.records, make([]byte, random.Intn(30)))
				random.Read(x.records[len(x.records)-1])
			}
			ok(t, d.Stop(random.Intn(14)))
			x.play(t, d)
			ok(t, d.Crash([]int{random.Intn(40)}))
			checkBehind(t, d.Clone(), x, random.Intn(3))
		}
	}
}
