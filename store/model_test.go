package store_test

import (
	"fmt"
	"maps"
	"slices"

	"weighlock/api"
	"weighlock/catalog"
	"weighlock/compact"
	"weighlock/offsets"
	"weighlock/record"
	"weighlock/release"
	"weighlock/retain"
)

// The model is a store by the words of the chapter: what lies on its disk are logs of segments of frames, and each flush makes all of it sure. It knows no numbers of segments.

// piece is a segment of a log.
type piece struct {
	base, left int // the number of the first frame, and how many places are left
	frames     []api.Frame
	sealed     bool
}

// behind is the number behind the frames.
func (x *piece) behind() int { return x.base + len(x.frames) }

// chain is a log.
type chain struct {
	id, gen, next int
	pieces        []*piece
}

// frames are all frames of a log from a number on.
func (g *chain) frames(from int) []api.Frame {
	var l []api.Frame
	for _, x := range g.pieces {
		for i, f := range x.frames {
			if x.base+i >= from {
				l = append(l, f)
			}
		}
	}
	return l
}

// fits tells whether a frame takes no new segment.
func (g *chain) fits(f api.Frame) bool {
	if len(g.pieces) == 0 {
		return false
	}
	last := g.pieces[len(g.pieces)-1]
	return !last.sealed && last.left >= places(f)
}

// places is how many places a frame takes.
func places(f api.Frame) int { return (len(f.Payload) + 7 + 51) / 52 }

// lain is what lies on a disk.
type lain struct {
	seq, epoch int
	gens       [3]int
	logs       []*chain
}

// clone is the same in memory of its own.
func (d lain) clone() lain {
	logs := d.logs
	d.logs = nil
	for _, g := range logs {
		other := &chain{id: g.id, gen: g.gen, next: g.next}
		for _, x := range g.pieces {
			other.pieces = append(other.pieces, &piece{x.base, x.left, slices.Clone(x.frames), x.sealed})
		}
		d.logs = append(d.logs, other)
	}
	return d
}

// log is a log that lies there, or a new one.
func (d *lain) log(id, gen int) *chain {
	for _, g := range d.logs {
		if g.id == id && g.gen == gen {
			return g
		}
	}
	g := &chain{id: id, gen: gen}
	d.logs = append(d.logs, g)
	return g
}

// segments is how many segments all logs have.
func (d *lain) segments() int {
	n := 0
	for _, g := range d.logs {
		n += len(g.pieces)
	}
	return n
}

// sent is a producer's last batch.
type sent struct{ seq, n, offset int }

// held is what a partition has.
type held struct {
	id, gen, start, next, mark int
	records                    []api.Record
	last                       map[int]sent
}

// flushed is what was sure behind so many steps.
type flushed struct {
	steps int
	disk  lain
}

// model is a store.
type model struct {
	segs, steps int
	disk        lain
	sure        []flushed // since the power came; the last one counts
	catalog     *catalog.Catalog
	offsets     *offsets.Table
	releases    *release.Log
	done        int // what the chapter calls sure
	parts       map[api.Place]*held
	turn        int
	owed        []string       // what is cleared without an entry has one ahead of the next commit
	met         map[string]int // how often what is rare came about
}

// meet counts what came about.
func (m *model) meet(what string) {
	if m.met == nil {
		m.met = map[string]int{}
	}
	m.met[what]++
}

// formatted is a model of a view that was formatted.
func formatted(segs int) *model {
	m := &model{segs: segs, steps: segs + 1, disk: lain{seq: 1, gens: [3]int{1, 1, 1}}}
	m.steps++
	m.flush()
	return m
}

func (m *model) flush() {
	m.steps++
	m.sure = append(m.sure, flushed{m.steps, m.disk.clone()})
}

// crash leaves what was sure.
func (m *model) crash() {
	m.steps, m.disk = 0, m.sure[len(m.sure)-1].disk.clone()
	m.sure = []flushed{{0, m.disk.clone()}}
}

func (m *model) free() int { return m.segs - m.disk.segments() }

func (m *model) journal(i int) *chain { return m.disk.log(i+1, m.disk.gens[i]) }

func (m *model) log(x *held) *chain { return m.disk.log(x.id, x.gen) }

// append puts a frame behind all of a log, if there is room.
func (m *model) append(g *chain, f api.Frame) bool {
	if !g.fits(f) {
		if m.free() == 0 {
			return false
		}
		g.pieces = append(g.pieces, &piece{base: g.next, left: 15})
		m.steps++
	}
	x := g.pieces[len(g.pieces)-1]
	x.frames = append(x.frames, f)
	x.left -= places(f)
	m.steps += places(f)
	g.next++
	return true
}

// wipe lets segments of a log go, from the first one on.
func (m *model) wipe(g *chain, n int) {
	m.steps += n
	g.pieces = g.pieces[n:]
}

// apply turns what the entries of a journal turn.
func (m *model) apply(i int, f api.Frame) {
	e := []func(api.Frame) api.Errno{m.catalog.Apply, m.offsets.Apply, m.releases.Apply}[i](f)
	if e != api.OK {
		panic(fmt.Sprintf("%v %d %q %d %v", e, i, f.Payload, m.offsets.Groups(), m.met))
	}
}

// put puts an entry, if there is room.
func (m *model) put(i int, f api.Frame) bool {
	if !m.append(m.journal(i), f) {
		return false
	}
	m.apply(i, f)
	return true
}

// names are all topics' places, by topics and numbers.
func (m *model) places() []api.Place {
	return slices.SortedFunc(maps.Keys(m.parts), func(a, b api.Place) int {
		if a.Topic != b.Topic && a.Topic < b.Topic || a.Topic == b.Topic && a.Part < b.Part {
			return -1
		}
		return 1
	})
}

// open opens all anew.
func (m *model) open(tick int) {
	m.disk.seq++
	m.disk.epoch++
	m.steps++
	m.flush()
	there := m.disk
	m.disk.logs = nil
	m.catalog, m.offsets, m.releases = catalog.New(), offsets.New(), release.New()
	m.parts, m.turn, m.owed = map[api.Place]*held{}, 0, nil
	for i := range 3 {
		m.adopt(there.log(i+1, m.disk.gens[i]), 0)
		for _, f := range m.journal(i).frames(0) {
			m.apply(i, f)
		}
	}
	m.done = m.releases.Done()
	for _, name := range m.catalog.Names() {
		spec, _ := m.catalog.Spec(name)
		for part := range spec.Parts {
			m.find(api.Place{Topic: name, Part: part}, there)
		}
	}
	m.steps += there.segments() - m.disk.segments()
	m.flush()
	for _, name := range m.lost() {
		m.clear(name)
		m.meet("lost")
	}
	for _, x := range m.parts {
		for _, r := range x.records {
			m.finishAlone(r.From)
		}
	}
	m.putPending(tick)
	m.flush()
}

// adopt takes of a log that lay there the segments with frames from a number on.
func (m *model) adopt(g *chain, from int) *chain {
	other := &chain{id: g.id, gen: g.gen, next: from}
	for _, x := range g.pieces {
		if x.behind() > from {
			other.pieces = append(other.pieces, &piece{x.base, x.left, x.frames, true})
			other.next = x.behind()
		}
	}
	m.disk.logs = append(m.disk.logs, other)
	return other
}

// find finds a partition again.
func (m *model) find(p api.Place, there lain) {
	meta, _ := m.catalog.Meta(p)
	id, _ := m.catalog.Log(p)
	x := &held{id: id, gen: meta.Gen, start: meta.Start, next: meta.Next, last: readTable(meta.Table)}
	for _, f := range m.adopt(there.log(id, meta.Gen), meta.Seq).frames(meta.Seq) {
		l, e := record.Unpack(f.Payload)
		if e != api.OK || f.Kind < 1 || f.Kind > 2 {
			panic(e)
		}
		if f.Kind == 1 && l[0].Producer != 0 {
			x.last[l[0].Producer] = sent{l[0].Seq, len(l), l[0].Offset}
		}
		for _, r := range l {
			if r.Offset >= x.start {
				x.records = append(x.records, r)
				x.next = max(x.next, r.Offset+1)
			}
		}
	}
	x.mark = x.next
	m.parts[p] = x
}

// readTable is a table of producers whose numbers are all below 128.
func readTable(s string) map[int]sent {
	t := map[int]sent{}
	var l []int
	for len(s) > 0 {
		n, shift := 0, 0
		for s[0] > 127 {
			n |= int(s[0]&127) << shift
			s, shift = s[1:], shift+7
		}
		l = append(l, n|int(s[0])<<shift)
		s = s[1:]
	}
	for i := range l[0] {
		t[l[4*i+1]] = sent{l[4*i+2], l[4*i+3], l[4*i+4]}
	}
	return t
}

// laidTable is a table of producers as bytes.
func laidTable(t map[int]sent) string {
	s := laidChain(len(t))
	for _, producer := range slices.Sorted(maps.Keys(t)) {
		b := t[producer]
		s += laidChain(producer) + laidChain(b.seq) + laidChain(b.n) + laidChain(b.offset)
	}
	return s
}

func laidChain(n int) string {
	s := ""
	for ; n > 127; n >>= 7 {
		s += string([]byte{byte(n | 128)})
	}
	return s + string([]byte{byte(n)})
}

// lost are the topics of groups' offsets that are not there.
func (m *model) lost() []string {
	lost := map[string]bool{}
	for _, k := range m.offsets.Keys() {
		if !slices.Contains(m.catalog.Names(), k.Place.Topic) {
			lost[k.Place.Topic] = true
		}
	}
	return slices.Sorted(maps.Keys(lost))
}

// clear clears a topic's offsets, if there is one.
func (m *model) clear(name string) {
	has := func(k offsets.Key) bool { return k.Place.Topic == name }
	if slices.ContainsFunc(m.offsets.Keys(), has) {
		f, _ := m.offsets.Clear(name)
		if m.put(1, f) {
			m.meet("cleared by an entry")
		} else {
			m.apply(1, f)
			m.owed = append(m.owed, name)
			m.meet("cleared alone")
		}
	}
}

// finishAlone lets releases be done without an entry.
func (m *model) finishAlone(n int) {
	if n = min(n, m.releases.Last()); n > m.releases.Done() {
		f, _ := m.releases.Finish(n)
		m.apply(2, f)
	}
}

// finish finishes releases, if there is room.
func (m *model) finish() bool {
	last := m.releases.Last()
	if m.done >= last || m.releases.Done() < last {
		return true
	}
	m.flush()
	f, _ := m.releases.Finish(last)
	if !m.put(2, f) {
		m.meet("not finished")
		return false
	}
	m.meet("finished")
	m.done = last
	m.flush()
	return true
}

// records are records of pairs.
func records(offset int, head api.Record, l []api.Pair) []api.Record {
	var records []api.Record
	for i, p := range l {
		r := api.Record{Offset: offset + i, Tick: head.Tick, Key: p.Key, Value: p.Value, Gone: p.Gone, Producer: head.Producer, From: head.From, Seq: head.Seq}
		if r.Producer != 0 {
			r.Seq += i
		}
		records = append(records, r)
	}
	return records
}

func mayNot(r api.Record) bool { return !record.May(r) }

// packed is a frame of records.
func packed(kind int, l []api.Record) api.Frame {
	payload, e := record.Pack(l)
	if e != api.OK {
		panic(e)
	}
	return api.Frame{Kind: kind, Payload: payload}
}

// take puts records behind all of a partition, if their frame has room.
func (m *model) take(x *held, l []api.Record) bool {
	f := packed(1, l)
	if !m.log(x).fits(f) && m.free() <= 2 || !m.append(m.log(x), f) {
		return false
	}
	if l[0].Producer != 0 {
		x.last[l[0].Producer] = sent{l[0].Seq, len(l), l[0].Offset}
	}
	x.records = append(x.records, l...)
	x.next += len(l)
	return true
}

func (m *model) create(spec api.Spec) api.Errno {
	f, e := m.catalog.Create(spec)
	if e != api.OK {
		return e
	}
	if !m.put(0, f) {
		return api.ErrPool
	}
	for part := range spec.Parts {
		m.find(api.Place{Topic: spec.Name, Part: part}, lain{})
	}
	return api.OK
}

func (m *model) delete(name string) api.Errno {
	spec, e := m.catalog.Spec(name)
	if e != api.OK {
		return e
	}
	if len(m.releases.Pending()) > 0 {
		return api.ErrState
	}
	if !m.finish() {
		return api.ErrPool
	}
	f, _ := m.catalog.Delete(name)
	if !m.put(0, f) {
		return api.ErrPool
	}
	m.flush()
	m.clear(name)
	for part := range spec.Parts {
		p := api.Place{Topic: name, Part: part}
		g := m.log(m.parts[p])
		m.wipe(g, len(g.pieces))
		delete(m.parts, p)
	}
	return api.OK
}

// mayPair tells whether a pair may be.
func mayPair(p api.Pair) bool {
	return len(p.Key) <= 32 && len(p.Value) <= 200 && (!p.Gone || p.Key != "" && p.Value == "")
}

// check tells why pairs are no batch.
func check(l []api.Pair) api.Errno {
	bytes := 0
	for _, p := range l {
		if !mayPair(p) {
			return api.ErrArg
		}
		bytes += len(p.Key) + len(p.Value)
	}
	if len(l) == 0 {
		return api.ErrArg
	}
	if len(l) > 8 || bytes > 500 {
		return api.ErrLong
	}
	return api.OK
}

func (m *model) produce(p api.Place, head api.Record, l []api.Pair) (int, bool, api.Errno) {
	x := m.parts[p]
	if x == nil {
		return 0, false, api.ErrNone
	}
	if e := check(l); e != api.OK {
		return 0, false, e
	}
	if head.Producer != 0 {
		if head.Producer < 0 || head.Producer > api.MaxInt || head.Seq < 0 || head.Seq > api.MaxInt {
			return 0, false, api.ErrArg
		}
		b, there := x.last[head.Producer]
		switch {
		case there && b.seq == head.Seq && b.n == len(l):
			return b.offset, true, api.OK
		case there && b.seq+b.n != head.Seq || !there && head.Seq != 0:
			return 0, false, api.ErrGap
		case !there && len(x.last) == 16:
			return 0, false, api.ErrFull
		}
	}
	put, at := records(x.next, head, l), x.next
	if slices.ContainsFunc(put, mayNot) {
		return 0, false, api.ErrRange
	}
	if !m.take(x, put) {
		return 0, false, api.ErrPool
	}
	return at, false, api.OK
}

func (m *model) commit(k offsets.Key, offset int) api.Errno {
	if m.parts[k.Place] == nil {
		return api.ErrNone
	}
	f, e := m.offsets.Commit(k, offset)
	for ; e == api.OK && len(m.owed) > 0; m.owed = m.owed[1:] {
		owed, _ := m.offsets.Clear(m.owed[0])
		if !m.put(1, owed) {
			return api.ErrPool
		}
		m.meet("cleared late")
	}
	if e == api.OK && !m.put(1, f) {
		e = api.ErrPool
	}
	return e
}

func (m *model) offset(k offsets.Key) (int, api.Errno) {
	if m.parts[k.Place] == nil {
		return 0, api.ErrNone
	}
	return m.offsets.Get(k)
}

func (m *model) release(r release.Release, tick int) (int, api.Errno) {
	x := m.parts[r.Target]
	if x == nil {
		return 0, api.ErrNone
	}
	entry, e := m.releases.Make(r)
	if e != api.OK {
		return 0, e
	}
	number, at := m.releases.Last()+1, x.next
	l := records(at, api.Record{Tick: tick, From: number}, []api.Pair{r.Pair})
	if slices.ContainsFunc(l, mayNot) {
		return 0, api.ErrRange
	}
	free := m.free()
	if !m.journal(2).fits(entry) {
		free--
	}
	if m.releases.Done() < m.releases.Last() || free < 0 || free <= 2 && !m.log(x).fits(packed(1, l)) {
		return 0, api.ErrPool
	}
	m.flush()
	m.put(2, entry)
	m.flush()
	if !m.take(x, l) {
		panic("no room")
	}
	m.finishAlone(number)
	return at, api.OK
}

// putPending puts the pending ones, as long as there is room.
func (m *model) putPending(tick int) {
	for _, r := range m.releases.Pending() {
		if x := m.parts[r.Target]; x != nil {
			l := records(x.next, api.Record{Tick: tick, From: r.Number}, []api.Pair{r.Pair})
			if slices.ContainsFunc(l, mayNot) || !m.take(x, l) {
				m.meet("stays pending")
				return
			}
		} else {
			m.meet("counts as put")
		}
		m.meet("put late")
		m.finishAlone(r.Number)
	}
}

func (m *model) task(tick int) {
	m.putPending(tick)
	if len(m.releases.Pending()) > 0 {
		return
	}
	if l := m.places(); len(l) > 0 {
		at := m.turn % len(l)
		m.turn = (at + 1) % len(l)
		spec, _ := m.catalog.Spec(l[at].Topic)
		if spec.Age+spec.Size > 0 {
			m.trim(l[at], spec, tick)
		}
		if spec.Compact {
			m.compact(l[at], spec, tick)
		}
	}
	for i := range 3 {
		m.anew(i)
	}
}

// putMeta puts a partition's meta, if there is room, and flushes.
func (m *model) putMeta(p api.Place, x *held, gen, seq, start int) bool {
	f, e := m.catalog.Put(p, catalog.Meta{Gen: gen, Seq: seq, Start: start, Next: x.next, Table: laidTable(x.last)})
	if e != api.OK || !m.put(0, f) {
		return false
	}
	m.flush()
	return true
}

// trim lets go what goes by age and size.
func (m *model) trim(p api.Place, spec api.Spec, tick int) {
	x := m.parts[p]
	g := m.log(x)
	start := retain.Start(x.records, x.next, tick, spec.Age, spec.Size)
	if start <= x.start || !m.finish() {
		return
	}
	seq := g.next
	for i, f := range slices.Backward(g.frames(0)) {
		l, _ := record.Unpack(f.Payload)
		if l[len(l)-1].Offset >= start {
			seq = g.next - len(g.frames(0)) + i
		}
	}
	if !m.putMeta(p, x, x.gen, seq, start) {
		m.meet("not trimmed")
		return
	}
	m.meet("trimmed")
	x.start, x.mark = start, max(x.mark, start)
	x.records = slices.DeleteFunc(x.records, func(r api.Record) bool { return r.Offset < start })
	for len(g.pieces) > 1 && g.pieces[0].behind() <= seq {
		m.wipe(g, 1)
		m.meet("dropped")
	}
}

// compact lets go what goes by keys.
func (m *model) compact(p api.Place, spec api.Spec, tick int) {
	x, dead := m.parts[p], 0
	if spec.Age > 0 {
		dead = max(tick, 0) - spec.Age
	}
	kept := compact.Keep(x.records, dead)
	if 2*len(kept) >= len(x.records) {
		return
	}
	var frames []api.Frame
	var l []api.Record
	for _, r := range kept {
		if _, e := record.Pack(append(slices.Clone(l), r)); e != api.OK {
			frames, l = append(frames, packed(2, l)), nil
		}
		l = append(l, r)
	}
	if len(l) > 0 {
		frames = append(frames, packed(2, l))
	}
	if m.free()-needed(frames) <= 2 || !m.finish() {
		m.meet("not compacted")
		return
	}
	m.meet("compacted")
	old, gen := m.log(x), m.catalog.Count()+1
	for _, f := range frames {
		m.append(m.disk.log(x.id, gen), f)
	}
	m.flush()
	if !m.putMeta(p, x, gen, 0, x.start) {
		panic("no room")
	}
	x.gen, x.records = gen, kept
	m.wipe(old, len(old.pieces))
}

// needed is how many segments frames need.
func needed(l []api.Frame) int {
	segs, left := 0, 0
	for _, f := range l {
		if places(f) > left {
			segs, left = segs+1, 15
		}
		left -= places(f)
	}
	return segs
}

// anew writes a journal anew, if it has grown, and that is worth it.
func (m *model) anew(i int) {
	l := [][]api.Frame{m.catalog.Snapshot(), m.offsets.Snapshot(), m.releases.Snapshot()}[i]
	old := m.journal(i)
	n := needed(l)
	if len(old.pieces) <= 2 {
		return
	}
	if n >= len(old.pieces) || n > m.free() {
		m.meet("not written anew " + string([]byte{byte('0' + i)}))
		return
	}
	m.meet("written anew " + string([]byte{byte('0' + i)}))
	gen := m.disk.gens[i] + 1
	for _, f := range l {
		m.append(m.disk.log(i+1, gen), f)
	}
	m.flush()
	if i == 2 && m.done < m.releases.Done() {
		m.meet("sure by being written anew")
	}
	m.disk.gens[i] = gen
	m.disk.seq++
	m.steps++
	m.flush()
	if i == 1 {
		m.owed = nil
	}
	if i == 2 {
		m.done = m.releases.Done()
	}
	m.wipe(old, len(old.pieces))
}

// mark lets readers see all.
func (m *model) mark() {
	m.flush()
	for _, x := range m.parts {
		x.mark = x.next
	}
}

// fetch are records that readers see.
func (m *model) fetch(p api.Place, from, most int) ([]api.Record, int, api.Errno) {
	x := m.parts[p]
	if x == nil {
		return nil, 0, api.ErrNone
	}
	if from < x.start || from > x.mark {
		return nil, 0, api.ErrOffset
	}
	var l []api.Record
	on := from
	for _, r := range x.records {
		if r.Offset >= from && r.Offset < x.mark && len(l) < min(most, 16) {
			l, on = append(l, r), r.Offset+1
		}
	}
	if len(l) == 0 && most > 0 {
		on = x.mark
	}
	return l, on, api.OK
}
