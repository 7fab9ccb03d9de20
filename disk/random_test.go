package disk_test

import (
	"bytes"
	"fmt"
	"math/rand"
	"slices"
	"strings"
	"testing"

	"assize/api"
	"assize/disk"
)

// pick chooses a number from 0 to below another one.
type pick func(n int) int

// seen is what can be seen of a disk.
type seen struct {
	size, used, writes int
	stopped            bool
	files              []seenFile
}

type seenFile struct {
	name  string
	bytes string
	loose int
}

// look tells what can be seen of a disk.
func look(d *disk.Disk) seen {
	s := seen{size: d.Size(), used: d.Used(), writes: d.Writes(), stopped: d.Stopped()}
	for _, name := range d.Names() {
		b, err := d.Read(name)
		if err != api.OK {
			panic(name)
		}
		s.files = append(s.files, seenFile{name, string(b), d.Loose(name)})
	}
	return s
}

// checkSeen fails if two disks can be told apart.
func checkSeen(t testing.TB, got, want seen) {
	t.Helper()
	if fmt.Sprint(got) != fmt.Sprint(want) {
		t.Fatalf("%+v\nnot\n%+v", got, want)
	}
}

// do does a deed to a disk, and tells its error.
func do(d *disk.Disk, x deed) api.Errno {
	switch x.call {
	case "append":
		return d.Append(x.name, x.b)
	case "cut":
		return d.Cut(x.name, x.n)
	case "sync":
		return d.Sync(x.name)
	case "rename":
		return d.Rename(x.name, x.to)
	case "remove":
		return d.Remove(x.name)
	case "stop":
		return d.Stop(x.n)
	}
	return d.Crash(x.torn)
}

// aName makes a name, mostly one of few that may be.
func aName(p pick) string {
	if p(30) == 0 {
		return []string{"", "A", "a b", "a/b", "a\x00", strings.Repeat("a", 40), strings.Repeat("a", 41), "é"}[p(8)]
	}
	return []string{"a", "b", "c", "aa", "a-", "0."}[p(6)]
}

// someBytes makes a few bytes.
func someBytes(p pick) []byte {
	b := make([]byte, p(5))
	for i := range b {
		b[i] = byte(p(256))
	}
	return b
}

// aDeed makes a deed.
func aDeed(p pick) deed {
	d := deed{name: aName(p)}
	switch p(20) {
	case 0:
		d.call, d.n = "stop", p(8)-1
	case 1:
		d.call = "crash"
		for range p(5) {
			d.torn = append(d.torn, p(6)-1)
		}
	case 2, 3:
		d.call, d.n = "cut", p(6)-1
	case 4, 5, 6:
		d.call, d.to = "rename", aName(p)
	case 7, 8:
		d.call = "remove"
	case 9, 10, 11, 12:
		d.call = "sync"
	default:
		d.call, d.b = "append", someBytes(p)
	}
	return d
}

// checkDeeds fails if a disk does not go with a second one, deed by deed.
func checkDeeds(t testing.TB, size, deeds int, p pick) {
	t.Helper()
	d, h := made(t, size), &history{size: size}
	for range deeds {
		x := aDeed(p)
		before := look(d)
		got, want := do(d, x), h.do(x)
		if got != want {
			t.Fatalf("%+v: %v, not %v; of %+v", x, got, want, before)
		}
		if got != api.OK {
			checkSeen(t, look(d), before)
		}
		checkSeen(t, look(d), h.look())
		if p(8) == 0 {
			other := d.Clone()
			do(d, aDeed(p))
			d = other
			checkSeen(t, look(d), h.look())
		}
	}
}

// P19.1 to P19.4
func TestDeedsAtRandom(t *testing.T) {
	random := rand.New(rand.NewSource(1))
	for range 1500 {
		checkDeeds(t, 1+random.Intn(20), 60, random.Intn)
	}
}

func FuzzDeeds(f *testing.F) {
	f.Add([]byte{9, 19, 0, 1, 2, 3, 4, 5, 6, 7, 8})
	f.Fuzz(func(t *testing.T, choices []byte) {
		checkDeeds(t, 12, min(len(choices), 100), func(n int) int {
			if len(choices) == 0 {
				return 0
			}
			x := int(choices[0])
			choices = choices[1:]
			return x % n
		})
	})
}

// lived makes a disk to which deeds were done.
func lived(t testing.TB, p pick) *disk.Disk {
	t.Helper()
	d := made(t, 1+p(30))
	for range p(40) {
		do(d, aDeed(p))
	}
	return d
}

// P19.5: behind a crash each file has at least its safe bytes, and at most those that it had.
func TestCrashesKeepWhatIsSafe(t *testing.T) {
	random := rand.New(rand.NewSource(2))
	for range 10000 {
		d := lived(t, random.Intn)
		c := d.Clone()
		var torn []int
		for range random.Intn(5) {
			torn = append(torn, random.Intn(7)-1)
		}
		ok(t, c.Crash(torn))
		loose := 0
		for _, name := range d.Names() {
			had, _ := d.Read(name)
			safe := len(had) - d.Loose(name)
			loose += d.Loose(name)
			has, err := c.Read(name)
			if err != api.OK && safe > 0 || len(has) < safe || !bytes.HasPrefix(had, has) || c.Loose(name) != 0 {
				t.Fatalf("%q had %v, of which %d are safe, and has %v, %v", name, had, safe, has, err)
			}
		}
		for _, name := range c.Names() {
			if !slices.Contains(d.Names(), name) {
				t.Fatalf("a crash made %q", name)
			}
		}
		if loose == 0 && fmt.Sprint(look(c).files) != fmt.Sprint(look(d).files) {
			t.Fatalf("%+v\nis\n%+v", look(d), look(c))
		}
		again := c.Clone()
		ok(t, again.Crash([]int{9, 9}))
		checkSeen(t, look(again), look(c))
	}
}

// P19.5: what a disk has behind Stop(k) is what one without has behind the first k writes.
func TestStopIsTheFirstWrites(t *testing.T) {
	random := rand.New(rand.NewSource(3))
	for range 10000 {
		d := lived(t, random.Intn)
		ok(t, d.Crash(nil))
		other := d.Clone()
		k := random.Intn(12)
		ok(t, d.Stop(k))
		for writes := 0; writes < 20; {
			x := aDeed(random.Intn)
			if !x.isWrite() {
				continue
			}
			writes++
			gone := d.Stopped()
			err := do(d, x)
			if !gone {
				checkErr(t, do(other, x), err)
			} else if err == api.OK {
				t.Fatalf("%+v was done without power", x)
			}
		}
		got, want := look(d), look(other)
		want.stopped = got.stopped
		checkSeen(t, got, want)
		torn := []int{random.Intn(4), random.Intn(4)}
		ok(t, d.Crash(torn))
		ok(t, other.Crash(torn))
		checkSeen(t, look(d), look(other))
	}
}
