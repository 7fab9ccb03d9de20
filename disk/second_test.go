package disk_test

import (
	"slices"
	"strings"

	"assize/api"
)

// history is a second disk: all that happened to one, from which whatever is asked is worked out anew.
type history struct {
	size  int
	deeds []deed
}

// deed is something that was done, or told: which call, of which files, with which bytes and numbers.
type deed struct {
	call string
	name string
	to   string
	b    []byte
	n    int
	torn []int
}

// paper is a file of the second disk: each byte says of itself whether it is loose; marked, if it was synced, cut or renamed.
type paper struct {
	name   string
	cells  []cell
	marked bool
}

type cell struct {
	b     byte
	loose bool
}

// loose tells how many of a file's bytes are.
func (p paper) loose() int {
	n := 0
	for _, c := range p.cells {
		if c.loose {
			n++
		}
	}
	return n
}

// papers tells the files as they are behind all that happened, by their rising names.
func (h *history) papers() []paper {
	var list []paper
	for _, d := range h.deeds {
		list = after(list, d)
		slices.SortFunc(list, func(a, b paper) int { return strings.Compare(a.name, b.name) })
	}
	return list
}

// find tells which file has a name, -1 if none has.
func find(list []paper, name string) int {
	return slices.IndexFunc(list, func(p paper) bool { return p.name == name })
}

// after tells the files behind a deed.
func after(list []paper, d deed) []paper {
	at := find(list, d.name)
	switch d.call {
	case "append":
		if at < 0 {
			list, at = append(list, paper{name: d.name}), len(list)
		}
		for _, b := range d.b {
			list[at].cells = append(list[at].cells, cell{b, true})
		}
	case "cut":
		list[at].cells, list[at].marked = list[at].cells[:d.n], true
	case "sync":
		list[at].marked = true
		for i := range list[at].cells {
			list[at].cells[i].loose = false
		}
	case "rename":
		if d.to != d.name {
			list[at].name, list[at].marked = "", true
			list = slices.DeleteFunc(list, func(p paper) bool { return p.name == d.to })
			list[find(list, "")].name = d.to
		}
	case "remove":
		list = slices.Delete(list, at, at+1)
	case "crash":
		list = crashed(list, d.torn)
	}
	return list
}

// crashed tells the files behind a crash.
func crashed(list []paper, torn []int) []paper {
	var left []paper
	turn := 0
	for _, p := range list {
		if p.loose() == 0 {
			left = append(left, p)
			continue
		}
		keep := 0
		if turn < len(torn) {
			keep = torn[turn]
		}
		turn++
		var cells []cell
		for _, c := range p.cells {
			if c.loose && keep <= 0 {
				break
			}
			if c.loose {
				keep--
			}
			cells = append(cells, cell{c.b, false})
		}
		if len(cells) > 0 || p.marked {
			left = append(left, paper{p.name, cells, p.marked})
		}
	}
	return left
}

// isWrite tells whether a deed is a write.
func (d deed) isWrite() bool { return d.call != "stop" && d.call != "crash" }

// writes tells how many writes were done.
func (h *history) writes() int {
	n := 0
	for _, d := range h.deeds {
		if d.isWrite() {
			n++
		}
	}
	return n
}

// stopped tells whether the power is gone: whether, since the last crash, as many writes as some Stop said came behind it ahead of the next one.
func (h *history) stopped() bool {
	left, told := 0, false
	for _, d := range h.deeds {
		switch {
		case told && left == 0 && d.call != "crash":
		case d.call == "stop":
			left, told = d.n, true
		case d.call == "crash":
			told = false
		default:
			left--
		}
	}
	return told && left == 0
}

// maySay tells whether a text is a file's name.
func maySay(name string) bool {
	if len(name) < 1 || len(name) > 40 {
		return false
	}
	for i := range len(name) {
		c := name[i]
		if !(c >= 'a' && c <= 'z' || c >= '0' && c <= '9' || c == '.' || c == '-') {
			return false
		}
	}
	return true
}

// used tells how many bytes these files have.
func used(list []paper) int {
	n := 0
	for _, p := range list {
		n += len(p.cells)
	}
	return n
}

// refusal tells the error of a write but for that of the power.
func (h *history) refusal(d deed) api.Errno {
	list := h.papers()
	at := find(list, d.name)
	switch d.call {
	case "append":
		if !maySay(d.name) {
			return api.ErrArg
		}
		if at < 0 && len(list) == 256 || used(list)+len(d.b) > h.size {
			return api.ErrFull
		}
		return api.OK
	case "rename":
		if !maySay(d.to) {
			return api.ErrArg
		}
	case "stop":
		if d.n < 0 {
			return api.ErrArg
		}
		return api.OK
	case "crash":
		return api.OK
	}
	if at < 0 {
		return api.ErrMissing
	}
	if d.call == "cut" && (d.n < 0 || d.n > len(list[at].cells)) {
		return api.ErrArg
	}
	if (d.call == "cut" || d.call == "rename") && list[at].loose() > 0 {
		return api.ErrState
	}
	return api.OK
}

// do does a deed, if it may be done, and tells its error.
func (h *history) do(d deed) api.Errno {
	if err := h.refusal(d); err != api.OK {
		return err
	}
	if d.isWrite() && h.stopped() {
		return api.ErrDisk
	}
	h.deeds = append(h.deeds, d)
	return api.OK
}

// look tells what can be seen of the second disk.
func (h *history) look() seen {
	s := seen{size: h.size, stopped: h.stopped(), writes: h.writes()}
	for _, p := range h.papers() {
		f := seenFile{name: p.name, loose: p.loose()}
		for _, c := range p.cells {
			f.bytes += string([]byte{c.b})
		}
		s.files = append(s.files, f)
	}
	s.used = used(h.papers())
	return s
}
