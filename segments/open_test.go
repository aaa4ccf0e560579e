package segments

import (
	"bytes"
	"fmt"
	"maps"
	"math/big"
	"regexp"
	"slices"
	"testing"

	"segments/api"
)

// segmentName is as P8 says.
var segmentName = regexp.MustCompile(`^[0-9]{20}\.log$`)

// numberOf is the number of a segment's file, as P13 says which these are.
func numberOf(name string) (int64, bool) {
	if !segmentName.MatchString(name) {
		return 0, false
	}
	n, _ := new(big.Int).SetString(name[:20], 10)
	return n.Int64(), n.Cmp(big.NewInt(api.MaxOffset)) <= 0
}

// readModel is what P13 says of a disk with these files.
func readModel(o api.Options, files map[string][]byte) *model {
	m := &model{options: o}
	for _, name := range slices.Sorted(maps.Keys(files)) {
		number, ok := numberOf(name)
		if !ok {
			continue
		}
		if len(m.list) > 0 && m.last().next() != number {
			break
		}
		m.list = append(m.list, modelSegment{number: number})
		b := files[name]
		for len(b) > 0 {
			batch, n, err := Decode(b)
			if err != nil || batch.Base != m.last().next() {
				return m
			}
			m.last().frames = append(m.last().frames, modelFrame{batch, b[:n]})
			b = b[n:]
		}
	}
	if len(m.list) == 0 {
		m.list = []modelSegment{{}}
	}
	return m
}

// segmentsAlone are the files that are segments, in the form in which a model tells them.
func segmentsAlone(t *testing.T, d *api.Disk) string {
	t.Helper()
	s := ""
	for _, name := range d.List() {
		if _, ok := numberOf(name); ok {
			s += fmt.Sprintf("%s %x\n", name, fileOf(t, d, name))
		}
	}
	return s
}

func diskOf(t *testing.T, files map[string][]byte) *api.Disk {
	t.Helper()
	d := api.NewDisk(1 << 30)
	for _, name := range slices.Sorted(maps.Keys(files)) {
		writeFile(t, d, name, files[name])
	}
	return d
}

// checkOpened holds that a log over these files is what P13 says, and goes on being right.
func checkOpened(t *testing.T, what string, files map[string][]byte) {
	t.Helper()
	w := &world{t, diskOf(t, files), nil, readModel(least, files)}
	w.open(least)
	check := func(when string) {
		t.Helper()
		if got, want := segmentsAlone(t, w.d), w.m.files(); got != want {
			t.Fatalf("P13: %s: %s the files are\n%swant\n%s", what, when, got, want)
		}
		first, next := w.m.bounds()
		if a, b, err := w.l.Bounds(); a != first || b != next || err != nil {
			t.Fatalf("P13: %s: %s Bounds is %d, %d, %v, want %d, %d", what, when, a, b, err, first, next)
		}
		w.checkFetch(first, 1<<20)
		w.checkFetch(next, 10)
		w.checkAt(2)
	}
	check("opened,")
	w.d.Crash(0, 0)
	w.open(least)
	check("behind a crash,")
	w.append(valued(1, 60), false)
	w.append(valued(2, 60), true)
	check("written into,")
}

func filesMap(t *testing.T, d *api.Disk) map[string][]byte {
	t.Helper()
	files := map[string][]byte{}
	for _, name := range d.List() {
		files[name] = fileOf(t, d, name)
	}
	return files
}

// wholeFiles are those of a log with three segments.
func wholeFiles(t *testing.T) map[string][]byte {
	t.Helper()
	w := newWorld(t, least)
	for i := range 5 {
		w.append(append(valued(int64(i), 40), record(3, "k", "-")), i%2 == 1)
	}
	w.checkFiles()
	files := filesMap(t, w.d)
	if len(files) != 3 {
		t.Fatalf("P8: %d segments", len(files))
	}
	return files
}

// with is the files with one of them changed.
func with(files map[string][]byte, name string, b []byte) map[string][]byte {
	files = maps.Clone(files)
	files[name] = b
	return files
}

// without is the files without some.
func without(files map[string][]byte, names ...string) map[string][]byte {
	files = maps.Clone(files)
	for _, name := range names {
		delete(files, name)
	}
	return files
}

func TestOpenOfWholeFiles(t *testing.T) {
	files := wholeFiles(t)
	checkOpened(t, "nothing", nil)
	checkOpened(t, "all", files)
	names := slices.Sorted(maps.Keys(files))
	for i, name := range names {
		checkOpened(t, "without "+name, without(files, name))
		checkOpened(t, name+" alone", map[string][]byte{name: files[name]})
		checkOpened(t, "from "+name+" on", without(files, names[:i]...))
		checkOpened(t, name+" empty", with(files, name, nil))
	}
}

func TestOpenOfTornFiles(t *testing.T) {
	files := wholeFiles(t)
	for name, b := range files {
		for n := range b {
			checkOpened(t, fmt.Sprintf("%d bytes of %s", n, name), with(files, name, b[:n]))
		}
		for _, more := range [][]byte{{0}, {0, 0, 0, 0}, make([]byte, 100), bytes.Repeat([]byte{0xff}, 30000), b, b[:len(b)/2]} {
			checkOpened(t, fmt.Sprintf("%s with %d bytes more", name, len(more)), with(files, name, append(bytes.Clone(b), more...)))
			checkOpened(t, fmt.Sprintf("%s with %d bytes ahead", name, len(more)), with(files, name, append(bytes.Clone(more), b...)))
		}
	}
}

func TestOpenOfSpoiltFiles(t *testing.T) {
	files := wholeFiles(t)
	for name, b := range files {
		for bit := range 8 * len(b) {
			spoilt := bytes.Clone(b)
			spoilt[bit/8] ^= 1 << (bit % 8)
			checkOpened(t, fmt.Sprintf("bit %d of %s", bit, name), with(files, name, spoilt))
		}
	}
}

// TestOpenOfOtherOffsets: whole frames whose offsets are not the next ones.
func TestOpenOfOtherOffsets(t *testing.T) {
	files := wholeFiles(t)
	last := slices.Max(slices.Collect(maps.Keys(files)))
	for base := range int64(20) {
		other := frameOf(api.Batch{Base: base, Records: many(2, 3)})
		for name, b := range files {
			checkOpened(t, fmt.Sprintf("%s with a frame of base %d", name, base), with(files, name, append(bytes.Clone(b), other...)))
			checkOpened(t, fmt.Sprintf("%s with a frame of base %d ahead", name, base), with(files, name, append(bytes.Clone(other), b...)))
		}
		name := fmt.Sprintf("%020d.log", base)
		if files[name] == nil {
			checkOpened(t, "also "+name, with(files, name, other))
			checkOpened(t, "also an empty "+name, with(files, name, nil))
			checkOpened(t, "also a foul "+name, with(files, name, []byte("foul")))
			checkOpened(t, last+" as "+name, with(without(files, last), name, files[last]))
		}
	}
}

// TestOpenBesideOtherFiles: what is no segment changes nothing.
func TestOpenBesideOtherFiles(t *testing.T) {
	whole := wholeFiles(t)
	frame := frameOf(api.Batch{Base: 10, Records: many(2, 3)})
	for _, files := range []map[string][]byte{{}, whole} {
		for _, name := range []string{
			"", "x", ".log", "10.log", "0000000000000000010.log", "000000000000000000010.log", "00000000000000000010.logs", "00000000000000000010.index", "+0000000000000000010.log", "0000000000000000001x.log",
			"04611686018427387905.log", "09223372036854775808.log", "18446744073709551615.log", "18446744073709551616.log", "18446744073709551626.log", "99999999999999999999.log",
		} {
			for _, b := range [][]byte{nil, frame, frame[:10], []byte("foul")} {
				checkOpened(t, fmt.Sprintf("beside %q", name), with(files, name, b))
			}
		}
	}
	great := fmt.Sprintf("%020d.log", int64(api.MaxOffset))
	d := api.NewDisk(1000)
	writeFile(t, d, great, []byte("foul"))
	l, err := Open(d, least)
	if err != nil {
		t.Fatal(err)
	}
	if a, b, err := l.Bounds(); a != api.MaxOffset || b != api.MaxOffset || err != nil {
		t.Errorf("P13: Bounds of the greatest segment are %d, %d, %v", a, b, err)
	}
}

// spoiltDisks are files of which not all is right, and some of which all is.
func spoiltDisks(t *testing.T) map[string]map[string][]byte {
	t.Helper()
	files := wholeFiles(t)
	names := slices.Sorted(maps.Keys(files))
	first, second := files[names[0]], files[names[1]]
	return map[string]map[string][]byte{
		"nothing":                 {},
		"whole files":             files,
		"a torn first segment":    with(files, names[0], first[:len(first)-1]),
		"a longer first segment":  with(files, names[0], append(bytes.Clone(first), 'x')),
		"a longer second segment": with(files, names[1], append(bytes.Clone(second), 0)),
		"a number between":        with(files, "00000000000000000002.log", nil),
		"a number between others": with(files, "00000000000000000005.log", nil),
		"several numbers between": with(with(files, "00000000000000000001.log", first), "00000000000000000003.log", second),
		"no segment":              {"x": first, "99999999999999999999.log": second},
	}
}

// TestCrashWithinOpen: Open that a crash comes into leaves a disk of which the same is read, however often that is.
func TestCrashWithinOpen(t *testing.T) {
	for what, files := range spoiltDisks(t) {
		for after := range 12 {
			for dir := range uint(6) {
				w := &world{t, diskOf(t, files).Copy(), nil, readModel(least, files)}
				for again := range uint(3) {
					w.d.Fail(after+int(again), 1000)
					_, err := Open(w.d, least)
					if n := api.Tell(err); n != api.OK && n != api.ErrDisk {
						t.Fatalf("P15: Open over a disk that fails: %v", err)
					}
					w.d.Crash(dir+again, 0)
				}
				w.open(least)
				if got, want := segmentsAlone(t, w.d), w.m.files(); got != want {
					t.Fatalf("P13: %s: behind crashes within Open (%d, %d) the files are\n%swant\n%s", what, after, dir, got, want)
				}
			}
		}
	}
}

// TestFaultWithinOpen: Open that meets a fault answers it and gives no log; the next one reads the same.
func TestFaultWithinOpen(t *testing.T) {
	for what, files := range spoiltDisks(t) {
		met := true
		for after := 0; met; after++ {
			w := &world{t, diskOf(t, files), nil, readModel(least, files)}
			w.d.Fail(after, 1)
			l, err := Open(w.d, least)
			met = !pending(w.d)
			checkFault(t, what+": Open", met, err)
			if (l == nil) != met {
				t.Fatalf("P1: %s: a log beside a fault, or none without: %v", what, err)
			}
			w.open(least)
			if got, want := segmentsAlone(t, w.d), w.m.files(); got != want {
				t.Fatalf("P13: %s: behind a fault within Open (%d) the files are\n%swant\n%s", what, after, got, want)
			}
		}
	}
}
