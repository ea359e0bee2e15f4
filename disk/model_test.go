package disk_test

import (
	"maps"
	"math/rand/v2"
	"slices"
	"strconv"
	"strings"
	"testing"

	"conduit/api"
	"conduit/disk"
)

// model is a disk in another way: it has all files that there ever were, and the names as they were behind each change since they were safe.
type model struct {
	room, power, steps int
	fails              []int
	data               []string
	safe               []int
	names              []map[string]int
}

func newModel(files []api.File, room int, fails []int, power int) *model {
	m := &model{room: room, power: power, fails: fails, names: []map[string]int{{}}}
	for i, f := range files {
		m.names[0][f.Name] = i
		m.data = append(m.data, string(f.Data))
		m.safe = append(m.safe, len(f.Data))
	}
	return m
}

func (m *model) down() bool              { return m.power >= 0 && m.steps >= m.power }
func (m *model) seen() map[string]int    { return m.names[len(m.names)-1] }
func (m *model) has(name string) bool    { _, ok := m.seen()[name]; return ok }
func (m *model) list() []string          { return slices.Sorted(maps.Keys(m.seen())) }
func (m *model) used() int               { return len(m.dataOf(m.list())) }
func (m *model) read(name string) string { return m.data[m.seen()[name]] }

func (m *model) dataOf(names []string) string {
	s := ""
	for _, name := range names {
		s += m.read(name)
	}
	return s
}

// next: the names as they are behind a change.
func (m *model) next(change func(names map[string]int)) {
	names := maps.Clone(m.seen())
	change(names)
	m.names = append(m.names, names)
}

func goodInModel(name string) bool {
	return len(name) >= 1 && len(name) <= nameCap && strings.Trim(name, goodBytes) == ""
}

// step is a call as words: its kind, its names, its data.
type step struct {
	kind     string
	one, two string
}

func (s step) do(d *disk.Disk) api.Errno {
	switch s.kind {
	case "Create":
		return d.Create(s.one)
	case "Append":
		return d.Append(s.one, []byte(s.two))
	case "Sync":
		return d.Sync(s.one)
	case "SyncNames":
		return d.SyncNames()
	case "Rename":
		return d.Rename(s.one, s.two)
	}
	return d.Remove(s.one)
}

// refuses: the error of a call, by the order of the chapter's sentences.
func (m *model) refuses(s step) api.Errno {
	if m.down() {
		return api.ErrPower
	}
	m.steps++
	switch {
	case slices.Contains(m.fails, m.steps):
		return api.ErrFault
	case s.kind != "SyncNames" && !goodInModel(s.one) || s.kind == "Rename" && !goodInModel(s.two):
		return api.ErrName
	case s.kind != "Create" && s.kind != "SyncNames" && !m.has(s.one):
		return api.ErrNone
	case s.kind == "Create" && m.has(s.one):
		return api.ErrExist
	case s.kind == "Append" && s.two != "" && m.used()+len(s.two) > m.room:
		return api.ErrFull
	}
	return api.OK
}

func (m *model) do(s step) api.Errno {
	if e := m.refuses(s); e != api.OK {
		return e
	}
	number := m.seen()[s.one]
	switch s.kind {
	case "Create":
		m.next(func(names map[string]int) { names[s.one] = len(m.data) })
		m.data, m.safe = append(m.data, ""), append(m.safe, 0)
	case "Append":
		m.data[number] += s.two
	case "Sync":
		m.safe[number] = len(m.data[number])
	case "SyncNames":
		m.names = []map[string]int{m.seen()}
	case "Rename":
		if s.one != s.two {
			m.next(func(names map[string]int) { names[s.two] = number; delete(names, s.one) })
		}
	case "Remove":
		m.next(func(names map[string]int) { delete(names, s.one) })
	}
	return api.OK
}

func (m *model) left(fate api.Fate) string {
	names := m.names[max(0, min(fate.Names, len(m.names)-1))]
	var words []string
	for _, name := range slices.Sorted(maps.Keys(names)) {
		k := names[name]
		end := m.safe[k]
		for more := 0; k < len(fate.Keep) && more < fate.Keep[k] && end < len(m.data[k]); more++ {
			end++
		}
		words = append(words, name+"="+m.data[k][:end])
	}
	return strings.Join(words, " ")
}

// differs: where the disk tells otherwise than the model.
func (m *model) differs(d *disk.Disk) string {
	if d.Steps() != m.steps || d.Down() != m.down() || d.Used() != m.used() {
		return "Steps " + strconv.Itoa(d.Steps()) + ", Used " + strconv.Itoa(d.Used())
	}
	if m.down() {
		if len(d.List()) != 0 {
			return "List"
		}
		return ""
	}
	if !slices.Equal(d.List(), m.list()) {
		return "List " + strings.Join(d.List(), " ")
	}
	for _, name := range m.list() {
		if b, e := d.Read(name); string(b) != m.read(name) || e != api.OK {
			return "Read " + name
		}
	}
	return ""
}

// leaves: where the disk leaves something else than the model, by a fate.
func (m *model) leaves(d *disk.Disk, fate api.Fate) string {
	if got, want := shown(d.Left(fate)), m.left(fate); got != want {
		return "Left " + strconv.Itoa(fate.Names) + ": " + got + "; want " + want
	}
	return ""
}

// fates: with any number of changes, each file keeps the same, or another number.
func (m *model) fates() []api.Fate {
	var list []api.Fate
	for names := range len(m.names) + 1 {
		rising := make([]int, len(m.data))
		for k := range rising {
			rising[k] = (k + names) % 3
		}
		list = append(list, keeping(names), keeping(names, slices.Repeat([]int{9}, len(m.data))...), keeping(names, rising...))
	}
	return list
}

// Every list of a few steps, over an empty disk and over one with files.
func TestAllShortScripts(t *testing.T) {
	steps := []step{
		{"Create", "a", ""}, {"Create", "b", ""}, {"Append", "a", "12"}, {"Append", "b", "3"}, {"Sync", "a", ""}, {"SyncNames", "", ""},
		{"Rename", "a", "b"}, {"Rename", "b", "a"}, {"Rename", "a", "a"}, {"Remove", "a", ""}, {"Remove", "b", ""},
	}
	for _, files := range [][]api.File{nil, held("a", "x"), held("a", "x", "b", "yz")} {
		var script []step
		var deeper func(depth int)
		deeper = func(depth int) {
			d, _ := disk.New(files, 6, nil, -1)
			m := newModel(files, 6, nil, -1)
			runBoth(t, d, m, script)
			for i := 0; depth > 0 && i < len(steps); i++ {
				script = append(script, steps[i])
				deeper(depth - 1)
				script = script[:len(script)-1]
			}
		}
		deeper(4)
	}
}

// runBoth: the steps answer as those of the model, and at the end both tell the same.
func runBoth(t *testing.T, d *disk.Disk, m *model, script []step) {
	t.Helper()
	for _, s := range script {
		if e, want := s.do(d), m.do(s); e != want {
			t.Fatalf("%v: %v = %d; want %d", script, s, e, want)
		}
	}
	if word := m.differs(d); word != "" {
		t.Fatalf("%v: %s", script, word)
	}
	for _, fate := range m.fates() {
		if word := m.leaves(d, fate); word != "" {
			t.Fatalf("%v: %s", script, word)
		}
	}
}

// anyStep: a step by chance, with names that are mostly good and often there.
func anyStep(r *rand.Rand) step {
	name := func() string {
		if r.IntN(40) == 0 {
			return badNames()[r.IntN(len(badNames()))]
		}
		return []string{"a", "b", "c", "d/e", "log"}[r.IntN(5)]
	}
	switch r.IntN(12) {
	case 0, 1:
		return step{"Create", name(), ""}
	case 2, 3, 4, 5:
		return step{"Append", name(), "0123456789"[:r.IntN(11)]}
	case 6, 7:
		return step{"Sync", name(), ""}
	case 8:
		return step{"SyncNames", "", ""}
	case 9, 10:
		return step{"Rename", name(), name()}
	}
	return step{"Remove", name(), ""}
}

// Long scripts with faults, with little room, and with a power that goes off; one life follows the other on what was left.
func TestLongScripts(t *testing.T) {
	for seed := range uint64(300) {
		r := rand.New(rand.NewPCG(seed, 9))
		var files []api.File
		for range 4 {
			room, power := r.IntN(60), r.IntN(80)-10
			fails := []int{r.IntN(70), r.IntN(70), r.IntN(70)}
			d, e := disk.New(files, room, fails, power)
			if e != api.OK {
				t.Fatalf("New(%s) = %d", shown(files), e)
			}
			m := newModel(files, room, fails, power)
			var script []step
			for range 60 {
				s := anyStep(r)
				script = append(script, s)
				runBoth(t, d, m, []step{s})
			}
			fate := keeping(r.IntN(9)-1, r.Perm(len(m.data))...)
			if word := m.leaves(d, fate); word != "" {
				t.Fatalf("%v: %s", script, word)
			}
			files = d.Left(fate)
		}
	}
}
