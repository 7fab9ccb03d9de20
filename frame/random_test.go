package frame_test

import (
	"math/rand"
	"slices"
	"testing"

	"assize/api"
	"assize/frame"
)

// someRecords makes a few records, mostly short ones, whose bytes may look like a frame's.
func someRecords(random *rand.Rand) [][]byte {
	records := make([][]byte, random.Intn(6))
	for i := range records {
		records[i] = make([]byte, random.Intn(400)>>random.Intn(9))
		for j := range records[i] {
			records[i][j] = []byte{byte(random.Intn(256)), 0, 255}[random.Intn(3)]
		}
		if random.Intn(5) == 0 {
			records[i] = secondFrame(records[i])
		}
	}
	return records
}

// P20.3: what was put in frames is read, and a cut is known.
func TestRunsAtRandom(t *testing.T) {
	random := rand.New(rand.NewSource(1))
	for range 5000 {
		records := someRecords(random)
		for _, record := range records {
			againstSecondWriter(t, record)
		}
		b := run(t, records...)
		checkScan(t, b, records, len(b), api.Whole)
		last := framed(t, ramp(random.Intn(40), byte(random.Intn(256)), 3)...)
		cut := random.Intn(len(last))
		how := api.Torn
		if cut == 0 {
			how = api.Whole
		}
		checkScan(t, append(slices.Clone(b), last[:cut]...), records, len(b), how)
		records, b = append(records, make([]byte, len(last)-12)), append(b, last[:cut]...)
		for range min(len(b), 30) {
			checkTurned(t, records, b, random.Intn(len(b)), random.Intn(8))
		}
	}
}

// spoiled changes something of bytes.
func spoiled(random *rand.Rand, b []byte) []byte {
	b = slices.Clone(b)
	at := random.Intn(len(b) + 1)
	x := []byte{byte(random.Intn(256)), 0, 1, 255}[random.Intn(4)]
	switch {
	case at == len(b) || random.Intn(4) == 0:
		return slices.Insert(b, at, x)
	case random.Intn(3) == 0:
		return slices.Delete(b, at, min(len(b), at+1+random.Intn(12)))
	case random.Intn(3) == 0:
		return b[:at]
	}
	b[at] = x
	return b
}

// P20.2
func TestBytesAtRandom(t *testing.T) {
	random := rand.New(rand.NewSource(2))
	var ends [3]int
	for range 20000 {
		b := run(t, someRecords(random)...)
		for range 1 + random.Intn(3) {
			b = spoiled(random, b)
			_, _, how := againstSecond(t, b)
			ends[how]++
		}
		if random.Intn(3) == 0 {
			random.Read(b)
			againstSecond(t, b)
		}
	}
	if slices.Min(ends[:]) < 1000 {
		t.Error(ends)
	}
}

// What is read is told again: the frames of the records are the bytes that were read.
func FuzzScan(f *testing.F) {
	f.Add([]byte{0, 0, 0, 0, 255, 255, 255, 255, 0, 0, 0, 0, 0, 1, 0, 0, 255, 254, 255, 255})
	f.Add(append(secondFrame([]byte{7}), 0, 0))
	f.Fuzz(func(t *testing.T, b []byte) {
		records, size, _ := againstSecond(t, b)
		if again := run(t, records...); string(again) != string(b[:size]) {
			t.Fatal(again)
		}
		againstSecondWriter(t, b)
		if got, _, _ := frame.Scan(secondFrame(b[:min(len(b), most)])); len(got) != 1 {
			t.Fatal(got)
		}
	})
}
