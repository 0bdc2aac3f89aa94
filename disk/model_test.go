package disk

import (
	"maps"
	"slices"

	"stillage/api"
)

// model is a disk that keeps the names as they are behind each number of pending changes, and reckons all else from there anew each time it is asked.
type model struct {
	limits api.Limits
	names  []map[string]int // behind none, one, .. and all of the pending changes
	files  map[int]*content // all that ever were, by their numbers
	fuses  []int            // the calls that are left, or nothing without a fuse
	off    bool
	calls  int
}

// content is the bytes of a file in a model.
type content struct {
	lasts   string
	pending []step
}

// step is a change of a content: data at its end, which was at, or (cut) its end taken off from at on.
type step struct {
	cut  bool
	at   int
	data string
}

func newModel(l api.Limits, files ...api.File) *model {
	m := &model{limits: l, names: []map[string]int{{}}, files: map[int]*content{}}
	for _, f := range files {
		if _, twice := m.names[0][f.Name]; !twice && valid(f.Name) && len(f.Data) <= most {
			m.names[0][f.Name] = len(m.files) + 1
			m.files[len(m.files)+1] = &content{lasts: string(f.Data)}
		}
	}
	return m
}

func (m *model) Create(s string) api.Errno {
	switch _, twice := m.now()[s]; {
	case m.down():
		return api.ErrDown
	case len(m.kept()) >= m.limits.Files:
		return api.ErrMany
	case !valid(s):
		return api.ErrName
	case twice:
		return api.ErrTwice
	}
	names := maps.Clone(m.now())
	names[s] = len(m.files) + 1
	m.files[names[s]] = &content{}
	m.names = append(m.names, names)
	return api.OK
}

func (m *model) Append(s string, b []byte) api.Errno {
	if m.down() {
		return api.ErrDown
	}
	c := m.file(s)
	if c == nil {
		return api.ErrNone
	}
	end := len(c.now())
	more := max(end+len(b)-c.room(), 0)
	switch {
	case end+len(b) > most:
		return api.ErrLarge
	case len(b) == 0:
		return api.OK
	case more > 0 && m.used()+more > m.limits.Bytes:
		return api.ErrSpace
	}
	c.pending = append(c.pending, step{at: end, data: string(b)})
	return api.OK
}

func (m *model) Cut(s string, n int) api.Errno {
	if m.down() {
		return api.ErrDown
	}
	c := m.file(s)
	if c == nil {
		return api.ErrNone
	}
	if n < 0 || n > len(c.now()) {
		return api.ErrRange
	}
	c.pending = append(c.pending, step{cut: true, at: n})
	return api.OK
}

func (m *model) Sync(s string) api.Errno {
	if m.down() {
		return api.ErrDown
	}
	c := m.file(s)
	if c == nil {
		return api.ErrNone
	}
	*c = content{lasts: c.now()}
	return api.OK
}

func (m *model) Rename(from, to string) api.Errno {
	if m.down() {
		return api.ErrDown
	}
	names := maps.Clone(m.now())
	id, there := names[from]
	if !there {
		return api.ErrNone
	}
	if !valid(to) {
		return api.ErrName
	}
	delete(names, from)
	names[to] = id
	m.names = append(m.names, names)
	return api.OK
}

func (m *model) Remove(s string) api.Errno {
	if m.down() {
		return api.ErrDown
	}
	names := maps.Clone(m.now())
	if _, there := names[s]; !there {
		return api.ErrNone
	}
	delete(names, s)
	m.names = append(m.names, names)
	return api.OK
}

func (m *model) SyncDir() api.Errno {
	if m.down() {
		return api.ErrDown
	}
	m.names = m.names[len(m.names)-1:]
	return api.OK
}

func (m *model) Read(s string, off, n int) ([]byte, api.Errno) {
	switch c := m.file(s); {
	case m.off:
		return nil, api.ErrDown
	case c == nil:
		return nil, api.ErrNone
	case off < 0 || n < 0 || uint64(off)+uint64(n) > uint64(len(c.now())):
		return nil, api.ErrRange
	default:
		return []byte(c.now())[off:][:n], api.OK
	}
}

func (m *model) Size(s string) (int, api.Errno) {
	switch c := m.file(s); {
	case m.off:
		return 0, api.ErrDown
	case c == nil:
		return 0, api.ErrNone
	default:
		return len(c.now()), api.OK
	}
}

func (m *model) Names() ([]string, api.Errno) {
	if m.off {
		return nil, api.ErrDown
	}
	return slices.Sorted(maps.Keys(m.now())), api.OK
}

func (m *model) Free() (int, int) {
	return lefts(m.limits, m.used(), len(m.kept()))
}

func (m *model) Fuse(n int) {
	m.fuses = nil
	if n >= 0 {
		m.fuses = []int{n}
	}
}

func (m *model) Calls() int { return m.calls }

func (m *model) Crash(choice []byte) {
	take := func() int {
		if len(choice) == 0 {
			return 0
		}
		c := choice[0]
		choice = choice[1:]
		return int(c)
	}
	names := m.names[min(take(), len(m.names)-1)]
	for _, id := range m.kept() {
		m.files[id].crash(take)
	}
	m.names, m.off, m.fuses = []map[string]int{names}, false, nil
}

func (m *model) Image() []api.File {
	var out []api.File
	for _, s := range slices.Sorted(maps.Keys(m.names[0])) {
		out = append(out, api.File{Name: s, Data: []byte(m.files[m.names[0][s]].lasts)})
	}
	return out
}

// down tells whether there is no power for a call, and counts the call if there is.
func (m *model) down() bool {
	m.off = m.off || len(m.fuses) > 0 && m.fuses[0] == 0
	if !m.off {
		m.calls++
		for i := range m.fuses {
			m.fuses[i]--
		}
	}
	return m.off
}

// now answers the numbers of the current files by their names.
func (m *model) now() map[string]int { return m.names[len(m.names)-1] }

// file answers the content of the current file of a name, or nil.
func (m *model) file(s string) *content { return m.files[m.now()[s]] }

// kept answers the numbers of all files that have a name behind some number of the pending changes.
func (m *model) kept() []int {
	var out []int
	for _, names := range m.names {
		out = slices.AppendSeq(out, maps.Values(names))
	}
	slices.Sort(out)
	return slices.Compact(out)
}

func (m *model) used() int {
	sum := 0
	for _, id := range m.kept() {
		sum += m.files[id].room()
	}
	return sum
}

// now answers the current bytes.
func (c *content) now() string {
	s := c.lasts
	for _, p := range c.pending {
		if s = s[:p.at]; !p.cut {
			s += p.data
		}
	}
	return s
}

// room answers the greatest length that a crash can leave.
func (c *content) room() int {
	most := len(c.lasts)
	for _, p := range c.pending {
		most = max(most, p.at+len(p.data))
	}
	return most
}

// crash leaves what survives by the numbers that take answers, one for each pending change.
func (c *content) crash(take func() int) {
	b := []byte(c.lasts)
	for _, p := range c.pending {
		n := take()
		if p.cut {
			if n != 0 {
				b = b[:min(p.at, len(b))]
			}
			continue
		}
		data := p.data
		if n < 255 && n < len(data) {
			data = data[:n]
		}
		for i := range len(data) {
			for p.at+i >= len(b) {
				b = append(b, 0)
			}
			b[p.at+i] = data[i]
		}
	}
	*c = content{lasts: string(b)}
}

// lefts answers how many bytes and files limits leave.
func lefts(l api.Limits, bytes, files int) (int, int) {
	b, f := 0, 0
	if l.Bytes > bytes {
		b = l.Bytes - bytes
	}
	if l.Files > files {
		f = l.Files - files
	}
	return b, f
}

// valid tells whether a disk takes a name.
func valid(s string) bool {
	for _, b := range []byte(s) {
		if b <= 32 || b >= 127 || b == '/' {
			return false
		}
	}
	return len(s) >= 1 && len(s) <= 32
}
