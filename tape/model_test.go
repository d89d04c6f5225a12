package tape_test

import (
	"encoding/binary"
	"math/rand"
	"slices"
	"strings"
	"testing"

	"fasti/api"
	"fasti/drum"
	"fasti/tape"
)

// plain is a sector of the log by the words of the chapter, valid or not.
type plain struct {
	life   uint32
	record uint32
	part   uint16
	mark   byte // the last sector's 128, and the number of data bytes
	data   string
	off    uint16 // what is added to the checksum
}

// one is the sector of a record that needs no other.
func one(life, record uint32, data string) plain {
	return plain{life: life, record: record, mark: 128 + byte(len(data)), data: data}
}

// inner is a sector that is not the last one of its record.
func inner(life, record uint32, part uint16, letter string) plain {
	return plain{life: life, record: record, part: part, mark: 51, data: strings.Repeat(letter, 51)}
}

// outer is the last sector of a record of several.
func outer(life, record uint32, part uint16, data string) plain {
	p := one(life, record, data)
	p.part = part
	return p
}

func (p plain) text() string {
	b := make([]byte, 64)
	binary.BigEndian.PutUint32(b[0:], p.life)
	binary.BigEndian.PutUint32(b[4:], p.record)
	binary.BigEndian.PutUint16(b[8:], p.part)
	b[10] = p.mark
	copy(b[11:62], p.data)
	binary.BigEndian.PutUint16(b[62:], modelSum(b)+p.off)
	return string(b)
}

func modelSum(b []byte) uint16 {
	sum := uint64(0)
	for i := uint64(0); i < 62; i++ {
		sum += uint64(b[i]) * (i + 1)
	}
	return uint16(sum % 65521)
}

func texts(l ...plain) []string {
	var out []string
	for _, p := range l {
		out = append(out, p.text())
	}
	return out
}

func modelParse(s string) (p plain, valid bool) {
	b := []byte(s)
	p.life = binary.BigEndian.Uint32(b[0:])
	p.record = binary.BigEndian.Uint32(b[4:])
	p.part = binary.BigEndian.Uint16(b[8:])
	p.mark = b[10]
	n := int(p.mark & 127)
	if p.life == 0 || binary.BigEndian.Uint16(b[62:]) != modelSum(b) || n > 51 {
		return p, false
	}
	for _, c := range b[11+n : 62] {
		if c != 0 {
			return p, false
		}
	}
	p.data = s[11 : 11+n]
	return p, n == 51 || p.mark >= 128
}

// modelRecord tells whether exactly these sectors are the record n, and what it
// contains.
func modelRecord(sectors []string, n int) (contents string, life uint32, complete bool) {
	for i, s := range sectors {
		p, valid := modelParse(s)
		if i == 0 {
			life = p.life
		}
		last := p.mark >= 128
		if !valid || p.life != life || int(p.record) != n || int(p.part) != i || last != (i == len(sectors)-1) {
			return "", 0, false
		}
		contents += p.data
	}
	return contents, life, true
}

func modelScan(sectors []string) (records []string, occupied, epoch int) {
	for _, s := range sectors {
		if p, valid := modelParse(s); valid {
			epoch = max(epoch, int(p.life))
		}
	}
	before := uint32(0)
	for more := true; more; {
		more = false
		for end := occupied + 1; end <= len(sectors) && !more; end++ {
			contents, life, complete := modelRecord(sectors[occupied:end], len(records)+1)
			if complete && life >= before {
				records, occupied, before, more = append(records, contents), end, life, true
			}
		}
	}
	return records, occupied, epoch
}

// drumOf returns a drum with exactly these sectors, durable.
func drumOf(t *testing.T, sectors []string) *drum.Drum {
	t.Helper()
	d := newDrum(t, len(sectors))
	for i, s := range sectors {
		if e := d.Write(i, s); e != api.OK {
			t.Fatalf("Write(%d) = %d", i, e)
		}
	}
	if e := d.Settle(); e != api.OK {
		t.Fatalf("Settle = %d", e)
	}
	return d
}

// expectModel has Scan and Open answer as the model does.
func expectModel(t *testing.T, sectors []string) {
	t.Helper()
	records, occupied, epoch := modelScan(sectors)
	d := drumOf(t, sectors)
	l, n, life, e := tape.Scan(d)
	if !slices.Equal(l, records) || n != occupied || life != epoch || e != api.OK {
		t.Fatalf("Scan of %q\n= %q, %d, %d, %d\nwant %q, %d, %d", sectors, l, n, life, e, records, occupied, epoch)
	}
	if epoch < 1<<32-1 {
		expectTape(t, d, records, len(sectors)-occupied, epoch+1)
		return
	}
	if a, l, e := tape.Open(d); a != nil || len(l) != 0 || e != api.ErrBig {
		t.Fatalf("Open of %q = %v, %q, %d", sectors, a, l, e)
	}
}

func TestScanAllShortDrums(t *testing.T) {
	alphabet := []string{strings.Repeat("\x00", 64)}
	for i := range 16 {
		p := plain{life: 1 + uint32(i&1), record: 1 + uint32(i>>1&1), part: uint16(i >> 2 & 1), mark: 51}
		if i&8 != 0 {
			p.mark = 128 + byte(1+i)
		}
		p.data = strings.Repeat(string(rune('a'+i)), int(p.mark&127))
		alphabet = append(alphabet, p.text())
	}
	for length := 1; length <= 4; length++ {
		digits := make([]int, length)
		sectors := make([]string, length)
		for more := true; more; {
			for i, k := range digits {
				sectors[i] = alphabet[k]
			}
			expectModel(t, sectors)
			more = false
			for i := range digits {
				digits[i] = (digits[i] + 1) % len(alphabet)
				if digits[i] != 0 {
					more = true
					break
				}
			}
		}
	}
}

func TestScanRandomDrums(t *testing.T) {
	r := rand.New(rand.NewSource(1))
	for range 30000 {
		sectors := randomLog(r)
		for range r.Intn(4) {
			damage(r, sectors)
		}
		expectModel(t, texts(sectors...))
	}
}

// randomLog returns the sectors of some records, the epochs of which mostly grow,
// and some old sectors after them.
func randomLog(r *rand.Rand) []plain {
	var out []plain
	life := 1 + uint32(r.Intn(3))
	for n := uint32(1); n <= uint32(r.Intn(6)); n++ {
		if r.Intn(3) == 0 {
			life += uint32(r.Intn(3))
		}
		if r.Intn(20) == 0 && life > 1 {
			life--
		}
		part := uint16(0)
		for ; r.Intn(2) == 0; part++ {
			out = append(out, inner(life, n, part, string(rune('a'+r.Intn(26)))))
		}
		out = append(out, outer(life, n, part, strings.Repeat("z", r.Intn(52))))
	}
	for range 1 + r.Intn(3) {
		out = append(out, plain{life: uint32(r.Intn(6)), record: uint32(r.Intn(6)), part: uint16(r.Intn(3)), mark: 128})
	}
	return out
}

func damage(r *rand.Rand, l []plain) {
	p := &l[r.Intn(len(l))]
	switch r.Intn(9) {
	case 0:
		p.life += uint32(r.Intn(3)) - 1
	case 1:
		p.record += uint32(r.Intn(3)) - 1
	case 2:
		p.part += uint16(r.Intn(3)) - 1
	case 3:
		p.mark ^= 128
	case 4:
		p.mark += byte(r.Intn(3)) - 1
	case 5:
		p.mark = byte(r.Intn(256))
	case 6:
		p.off = uint16(r.Intn(3))
	case 7:
		*p = plain{}
	case 8:
		*p = l[r.Intn(len(l))]
	}
}
