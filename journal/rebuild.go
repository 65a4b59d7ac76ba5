package journal

import (
	"slices"

	"berthmaster/api"
	"berthmaster/disk"
	"berthmaster/frame"
)

// rebuild recovers the journal from its files.
func (j *Journal) rebuild() api.Errno {
	files := j.disk.Names()
	// One that is there at first is left of a cut that was not done to its end.
	if half := j.name + cutMark; slices.Contains(files, half) {
		if e := j.step((*disk.Disk).Remove, half); e != api.OK {
			return e
		}
	}
	numbers := j.numbers(files)
	if e := j.goOver(numbers); e != api.OK {
		return e
	}
	for _, number := range numbers[len(j.segments):] {
		if e := j.step((*disk.Disk).Remove, j.file(number)); e != api.OK {
			return e
		}
	}
	return api.OK
}

// numbers answers those of the journal's segments among files; as these rise, so do they.
func (j *Journal) numbers(files []string) []uint64 {
	var l []uint64
	for _, file := range files {
		if number, is := segmentNumber(j.name, file); is {
			l = append(l, number)
		}
	}
	return l
}

// goOver goes into the segments of these numbers as long as the journal goes on, and cuts the one within which it ends.
func (j *Journal) goOver(numbers []uint64) api.Errno {
	var b []byte // of the one that it went into last
segments:
	for i, number := range numbers {
		if i > 0 && number != j.next {
			break segments
		}
		var e api.Errno
		if b, e = j.disk.Read(j.file(number)); e != api.OK {
			return e
		}
		j.begin(number)
		frames, _, _ := frame.Scan(b)
		for _, f := range frames {
			if f.Kind != api.KindRecord {
				break segments
			}
			j.note(f.Body)
		}
		if j.last().size == len(b) {
			continue segments
		}
		break segments
	}
	if len(b) == 0 || j.last().size == len(b) {
		return api.OK
	}
	return j.cut(b[:j.last().size])
}

// cut has just these bytes in the last segment. They get its name at once, so that no crash leaves less of the segment than them.
func (j *Journal) cut(b []byte) api.Errno {
	write := func(d *disk.Disk, file string) api.Errno { return d.Append(file, b) }
	rename := func(d *disk.Disk, file string) api.Errno { return d.Rename(file, j.file(j.last().number)) }
	for _, do := range []func(*disk.Disk, string) api.Errno{(*disk.Disk).Make, write, (*disk.Disk).Sync, rename} {
		if e := j.step(do, j.name+cutMark); e != api.OK {
			return e
		}
	}
	return api.OK
}
