package tests

import (
	"math"
	"slices"
	"strings"
	"testing"
	"unsafe"

	"loop.example/g00346/impl"
)

func blobOf(bytes string) impl.Blob { return impl.Blob{Key: impl.Hash(bytes), Bytes: bytes} }

// storeWith sorts by Key, so that the texts may be told in any order.
func storeWith(room int64, texts ...string) impl.Store {
	s := impl.Store{Room: room}
	for _, text := range texts {
		s.Blobs = append(s.Blobs, blobOf(text))
	}
	slices.SortFunc(s.Blobs, func(a, b impl.Blob) int { return int(a.Key - b.Key) })
	return s
}

func sameStore(a, b impl.Store) bool { return a.Room == b.Room && slices.Equal(a.Blobs, b.Blobs) }

func mustBeKept(t *testing.T, s impl.Store, bytes string, want impl.Store, code int64) {
	t.Helper()
	got, is := impl.Kept(s, bytes)
	if is != code || !sameStore(got, want) {
		t.Errorf("Kept of %.20q (%d bytes) in a Room of %d with %d Blobs is code %d and a Room of %d with %d Blobs, not code %d and %d with %d",
			bytes, len(bytes), s.Room, len(s.Blobs), is, got.Room, len(got.Blobs), code, want.Room, len(want.Blobs))
	}
}

func mustBeFetched(t *testing.T, s impl.Store, key int64, want string, is bool) {
	t.Helper()
	if got, ok := impl.Fetched(s, key); got != want || ok != is {
		t.Errorf("Fetched of %d is %.20q, %v, not %.20q, %v", key, got, ok, want, is)
	}
}

// textsOf are unlike each other, and their Hashes are in no order.
func textsOf(n int) []string {
	texts := make([]string, n)
	for i := range texts {
		texts[i] = strings.Repeat("kiln", i%5) + string(rune('a'+i%26)) + impl.HexOf(int64(i))
	}
	return texts
}

// The pairs have one Hash; the last ones also tell what is named first where
// a text is too long and clashes.
var clashes = [][2]string{
	{"agqzr", "kkaaab"},
	{"bgqzr", "klaaab"},
	{"", "uftqoxh"},
	{"cksohmc", strings.Repeat("a", 20000)},
	{"vyfxofc", strings.Repeat("a", 20001)},
}

// wrongStores are each wrong in one thing alone.
func wrongStores() map[string]impl.Store {
	low, mid, high := blobOf(""), blobOf("de"), blobOf("abc")
	if low.Key >= mid.Key || mid.Key >= high.Key {
		panic("the Keys are not in the order that the list wants")
	}
	long := strings.Repeat("x", impl.MaxText+1)
	great := strings.Repeat("y", impl.MaxText)
	return map[string]impl.Store{
		"Room below 0":              {Room: -1},
		"Room far below 0":          {Room: math.MinInt64},
		"Room below 0, Blobs":       {Room: -1, Blobs: []impl.Blob{low}},
		"Room too great":            {Room: impl.MaxRoom + 1},
		"Room far too great":        {Room: math.MaxInt64, Blobs: []impl.Blob{mid}},
		"Keys fall":                 {Room: 10, Blobs: []impl.Blob{high, mid}},
		"Keys fall at last":         {Room: 10, Blobs: []impl.Blob{low, high, mid}},
		"a Key twice":               {Room: 10, Blobs: []impl.Blob{mid, mid}},
		"the empty one twice":       {Room: 10, Blobs: []impl.Blob{low, low}},
		"a Key twice, Bytes unlike": {Room: 20, Blobs: []impl.Blob{blobOf("agqzr"), blobOf("kkaaab")}},
		"a Key one too great":       {Room: 10, Blobs: []impl.Blob{{Key: high.Key + 1, Bytes: "abc"}}},
		"a Key one too small":       {Room: 10, Blobs: []impl.Blob{{Key: high.Key - 1, Bytes: "abc"}}},
		"a Key of another":          {Room: 10, Blobs: []impl.Blob{{Key: high.Key, Bytes: "abd"}}},
		"a Key that is 0":           {Room: 10, Blobs: []impl.Blob{{Bytes: "abc"}}},
		"the zero Blob":             {Room: 10, Blobs: []impl.Blob{{}}},
		"a Key below 0":             {Room: 10, Blobs: []impl.Blob{{Key: -1, Bytes: ""}}},
		"a Key past the round":      {Room: 10, Blobs: []impl.Blob{{Key: high.Key + 2147483647, Bytes: "abc"}}},
		"a wrong Key at last":       {Room: 10, Blobs: []impl.Blob{low, mid, {Key: high.Key + 1, Bytes: "abc"}}},
		"a Blob too long":           storeWith(impl.MaxRoom, long),
		"a Blob too long, others":   storeWith(impl.MaxRoom, "abc", long, "de"),
		"one byte more than Room":   {Room: 4, Blobs: []impl.Blob{low, mid, high}},
		"bytes in no Room":          {Blobs: []impl.Blob{mid}},
		"more than MaxRoom":         storeWith(impl.MaxRoom, great, great[1:]+"1", great[1:]+"2", great[1:]+"3", great[1:]+"4", "z"),
	}
}

func TestStoreConstants(t *testing.T) {
	if impl.MaxRoom != 100000 || impl.StOk != 0 || impl.StClash != 1 || impl.StFull != 2 || impl.StBad != 3 {
		t.Fatal("they are not the document's")
	}
}

func TestStoreOkOfRightOnes(t *testing.T) {
	great := strings.Repeat("y", impl.MaxText)
	right := []struct {
		s     impl.Store
		taken int64
	}{
		{impl.Store{}, 0},
		{impl.Store{Room: 1}, 0},
		{impl.Store{Room: impl.MaxRoom}, 0},
		{impl.Store{Room: 5, Blobs: []impl.Blob{}}, 0},
		{storeWith(0, ""), 0},
		{storeWith(3, "abc"), 3},
		{storeWith(4, "abc"), 3},
		{storeWith(5, "abc", "de", ""), 5},
		{storeWith(7, "anegfnk"), 7},
		{storeWith(impl.MaxText, great), impl.MaxText},
		{storeWith(impl.MaxRoom, great, great[1:]+"1", great[1:]+"2", great[1:]+"3", great[1:]+"4"), impl.MaxRoom},
		{storeWith(impl.MaxRoom, great, great[1:]+"1", great[1:]+"2", great[1:]+"3", great[1:]+"4", ""), impl.MaxRoom},
		{storeWith(impl.MaxRoom, textsOf(300)...), 300*9 + 4*300*2},
	}
	for i, r := range right {
		if !impl.StoreOk(r.s) {
			t.Errorf("store %d of a Room of %d with %d Blobs is not StoreOk", i, r.s.Room, len(r.s.Blobs))
		}
		if got := impl.Taken(r.s); got != r.taken {
			t.Errorf("Taken of store %d is %d, not %d", i, got, r.taken)
		}
	}
}

func TestWrongStores(t *testing.T) {
	for name, s := range wrongStores() {
		if impl.StoreOk(s) {
			t.Errorf("%s: it is StoreOk", name)
		}
		if got := impl.Taken(s); got != -1 {
			t.Errorf("%s: Taken is %d", name, got)
		}
		for _, bytes := range []string{"", "abc", "de", "new", strings.Repeat("n", impl.MaxText+1)} {
			mustBeKept(t, s, bytes, impl.Store{}, impl.StBad)
		}
		for _, b := range s.Blobs {
			mustBeFetched(t, s, b.Key, "", false)
			mustBeFetched(t, s, impl.Hash(b.Bytes), "", false)
			mustBeKept(t, s, b.Bytes, impl.Store{}, impl.StBad)
		}
		for _, key := range []int64{0, 17, -1, math.MaxInt64, math.MinInt64} {
			mustBeFetched(t, s, key, "", false)
		}
	}
}

// Promise 3: one after the other, and all that were ahead of it stay.
func TestWhatIsKeptIsFetched(t *testing.T) {
	texts := append(textsOf(120), "", "a", "\x00", "\n", allBytes(), "anegfnk", strings.Repeat("\xff", 20000))
	s := impl.Store{Room: impl.MaxRoom}
	for i, text := range texts {
		mustBeFetched(t, s, impl.Hash(text), "", false)
		next, code := impl.Kept(s, text)
		if want := storeWith(impl.MaxRoom, texts[:i+1]...); code != impl.StOk || !sameStore(next, want) || !impl.StoreOk(next) {
			t.Fatalf("Kept of text %d, %.20q, is code %d and %d Blobs", i, text, code, len(next.Blobs))
		}
		s = next
		for _, ahead := range texts[:i+1] {
			mustBeFetched(t, s, impl.Hash(ahead), ahead, true)
		}
	}
	if got, want := impl.Taken(s), int64(len(impl.Joined(texts))); got != want {
		t.Errorf("Taken is %d, not %d", got, want)
	}
}

// Promise 3: the order in which they come is not seen.
func TestKeptInAnyOrderIsTheSame(t *testing.T) {
	texts := append(textsOf(40), "", "a")
	want := storeWith(impl.MaxRoom, texts...)
	for first := range texts {
		s := impl.Store{Room: impl.MaxRoom}
		for i := range texts {
			s, _ = impl.Kept(s, texts[(first+11*i)%len(texts)])
		}
		if !sameStore(s, want) {
			t.Fatalf("from text %d on the store is another one", first)
		}
	}
}

func TestKeptAgainItIsAsItIs(t *testing.T) {
	texts := append(textsOf(20), "", strings.Repeat("a", impl.MaxText))
	taken := int64(len(impl.Joined(texts)))
	for _, room := range []int64{taken, taken + 1, impl.MaxRoom} {
		s := storeWith(room, texts...)
		for _, text := range texts {
			mustBeKept(t, s, text, s, impl.StOk)
		}
	}
}

func TestKeptWhereItJustFits(t *testing.T) {
	great := strings.Repeat("a", impl.MaxText)
	cases := []struct {
		room   int64
		there  []string
		bytes  string
		isFull bool
	}{
		{0, nil, "", false},
		{0, nil, "a", true},
		{1, nil, "a", false},
		{1, nil, "ab", true},
		{3, []string{"abc"}, "", false},
		{3, []string{"abc"}, "d", true},
		{5, []string{"abc"}, "de", false},
		{5, []string{"abc"}, "def", true},
		{5, []string{"abc", ""}, "de", false},
		{5, []string{"abc", ""}, "def", true},
		{5, []string{"ab", "cde"}, "f", true},
		{impl.MaxText, nil, great, false},
		{impl.MaxText - 1, nil, great, true},
		{impl.MaxText + 2, []string{"abc"}, great, true},
		{impl.MaxText + 3, []string{"abc"}, great, false},
		{impl.MaxRoom, nil, great, false},
		{impl.MaxRoom, nil, great + "b", true},
		{impl.MaxRoom, []string{"abc"}, great + "b", true},
		{impl.MaxRoom, nil, great + great, true},
		{impl.MaxRoom, nil, strings.Repeat("a", impl.MaxRoom+1), true},
		{impl.MaxRoom, nil, strings.Repeat("a", 1<<20), true},
		{impl.MaxRoom, []string{great, great[1:] + "1", great[1:] + "2", great[1:] + "3"}, great[1:] + "4", false},
		{impl.MaxRoom, []string{great, great[1:] + "1", great[1:] + "2", great[1:] + "3", "z"}, great[1:] + "4", true},
	}
	for _, c := range cases {
		s := storeWith(c.room, c.there...)
		if c.isFull {
			mustBeKept(t, s, c.bytes, s, impl.StFull)
			mustBeFetched(t, s, impl.Hash(c.bytes), "", false)
		} else {
			mustBeKept(t, s, c.bytes, storeWith(c.room, append(slices.Clone(c.there), c.bytes)...), impl.StOk)
		}
	}
}

func TestKeptWithAClash(t *testing.T) {
	for _, pair := range clashes {
		if pair[0] == pair[1] || impl.Hash(pair[0]) != impl.Hash(pair[1]) {
			t.Fatalf("%.20q and %.20q do not clash", pair[0], pair[1])
		}
		for _, two := range [][2]string{pair, {pair[1], pair[0]}} {
			there, other := two[0], two[1]
			if len(there) > impl.MaxText {
				continue
			}
			for _, room := range []int64{int64(len(there)), impl.MaxRoom} {
				s := storeWith(room, there)
				mustBeKept(t, s, other, s, impl.StClash)
				mustBeKept(t, s, there, s, impl.StOk)
				mustBeFetched(t, s, impl.Hash(other), there, true)
			}
			s := storeWith(impl.MaxRoom, append(textsOf(9), there)...)
			mustBeKept(t, s, other, s, impl.StClash)
		}
	}
}

func TestFetchedOfOtherKeys(t *testing.T) {
	s := storeWith(impl.MaxRoom, append(textsOf(30), "", "anegfnk")...)
	mustBeFetched(t, s, 17, "", true)
	mustBeFetched(t, s, 0, "anegfnk", true)
	for _, key := range []int64{-1, 1, 16, 18, 2147483646, 2147483647, 2147483647 + 17, math.MaxInt64, math.MinInt64, impl.Hash("not there")} {
		mustBeFetched(t, s, key, "", false)
	}
	for _, b := range s.Blobs {
		mustBeFetched(t, s, b.Key+1, "", false)
		mustBeFetched(t, s, -b.Key-1, "", false)
		mustBeFetched(t, s, b.Key+2147483647, "", false)
	}
	for _, key := range []int64{0, 17, impl.Hash("abc")} {
		mustBeFetched(t, impl.Store{}, key, "", false)
		mustBeFetched(t, impl.Store{Room: 9}, key, "", false)
	}
}

func mustBeChunks(t *testing.T, s string, size int64, want ...string) {
	t.Helper()
	if got := impl.Chunks(s, size); !slices.Equal(got, want) {
		t.Errorf("Chunks of %.20q (%d bytes) by %d are %d pieces %.60q, not %d", s, len(s), size, len(got), got, len(want))
	}
}

func TestChunksOfTexts(t *testing.T) {
	mustBeChunks(t, "abcdef", 1, "a", "b", "c", "d", "e", "f")
	mustBeChunks(t, "abcdef", 2, "ab", "cd", "ef")
	mustBeChunks(t, "abcdef", 3, "abc", "def")
	mustBeChunks(t, "abcdef", 4, "abcd", "ef")
	mustBeChunks(t, "abcdef", 5, "abcde", "f")
	mustBeChunks(t, "a", 1, "a")
	mustBeChunks(t, "\x00\n\xff", 2, "\x00\n", "\xff")
	mustBeChunks(t, "\u00e9\u00e9", 3, "\u00e9\xc3", "\xa9")
	for _, size := range []int64{6, 7, 100, math.MaxInt32, 1 << 32, 1<<32 + 1, math.MaxInt64 - 1, math.MaxInt64} {
		mustBeChunks(t, "abcdef", size, "abcdef")
	}
}

func TestChunksOfNothing(t *testing.T) {
	for _, size := range []int64{1, 2, 1000, math.MaxInt64, 0, -1, math.MinInt64} {
		mustBeChunks(t, "", size)
	}
	for _, size := range []int64{0, -1, -2, -6, -1 << 32, math.MinInt64 + 1, math.MinInt64} {
		mustBeChunks(t, "abcdef", size)
		mustBeChunks(t, allBytes(), size)
	}
}

// Promise 3, at every size there is up to one more than the text has.
func TestChunksJoinedAreTheText(t *testing.T) {
	for _, s := range []string{"", "a", "ab", "package main\n", "\u00e9\u00e9n", strings.Repeat("\x00", 60), allBytes()} {
		for size := range int64(len(s) + 1) {
			mustBeWhole(t, s, size+1)
		}
		mustBeWhole(t, s, math.MaxInt64)
	}
	long := strings.Repeat("kiln\n", 40000)
	for _, size := range []int64{1, 7, 4096, 20000, 199999, 200000, 200001, math.MaxInt64} {
		mustBeWhole(t, long, size)
	}
}

func mustBeWhole(t *testing.T, s string, size int64) {
	t.Helper()
	pieces := impl.Chunks(s, size)
	for i, piece := range pieces {
		if len(piece) == 0 || int64(len(piece)) > size || int64(len(piece)) < size && i < len(pieces)-1 {
			t.Fatalf("piece %d of %d bytes by %d has %d", i, len(s), size, len(piece))
		}
	}
	if impl.Joined(pieces) != s {
		t.Errorf("Chunks of %.20q by %d, Joined, are %.20q", s, size, impl.Joined(pieces))
	}
}

func TestJoined(t *testing.T) {
	cases := []struct {
		list []string
		want string
	}{
		{nil, ""},
		{[]string{}, ""},
		{[]string{""}, ""},
		{[]string{"", "", ""}, ""},
		{[]string{"a"}, "a"},
		{[]string{"", "a", ""}, "a"},
		{[]string{"ab", "", "c", "ab"}, "abcab"},
		{[]string{"c", "b", "a"}, "cba"},
		{[]string{"\xc3", "\xa9", "\x00", "\n"}, "\u00e9\x00\n"},
		{[]string{allBytes(), allBytes()}, allBytes() + allBytes()},
		{manyTexts(), strings.Join(manyTexts(), "")},
	}
	for _, c := range cases {
		if got := impl.Joined(c.list); got != c.want {
			t.Errorf("Joined of %d texts is %.20q, not %.20q", len(c.list), got, c.want)
		}
	}
}

// laidOver lays the texts over bytes of the test's own, so that a write into
// them would be seen.
func laidOver(room []byte, texts ...string) []string {
	over := []string{}
	at := 0
	for _, text := range texts {
		copy(room[at:], text)
		over = append(over, unsafe.String(&room[at], len(text)))
		at += len(text)
	}
	return over
}

// Promise 21: the Blobs have room behind them, which must stay as it is.
func TestStoresAreNewMemoryAndArgumentsStay(t *testing.T) {
	room := make([]byte, 64)
	texts := laidOver(room, "agqzr", "package", "import", "more text", "new text")
	held := string(room)
	s := storeWith(24, texts[:3]...)
	behind := blobOf("spare room")
	s.Blobs = append(s.Blobs, behind, behind)[:3:5]
	before := slices.Clone(s.Blobs)

	want := map[string]int64{texts[0]: impl.StOk, "new": impl.StOk, texts[3]: impl.StFull, texts[4]: impl.StFull, "kkaaab": impl.StClash}
	want[unsafe.String(&room[27], 4)] = impl.StOk
	for bytes, code := range want {
		got, is := impl.Kept(s, bytes)
		if is != code || !impl.StoreOk(got) {
			t.Fatalf("Kept of %q is %d, not %d", bytes, is, code)
		}
		mustShareNothing(t, got, s, bytes)
		again, _ := impl.Kept(s, bytes)
		for i := range got.Blobs {
			got.Blobs[i] = behind
		}
		got.Blobs = append(got.Blobs, behind)
		if third, _ := impl.Kept(s, bytes); !sameStore(third, again) {
			t.Errorf("a store is handed out twice")
		}
	}
	for _, b := range s.Blobs {
		if got, is := impl.Fetched(s, b.Key); !is || sharing(got, b.Bytes) {
			t.Errorf("%q is not Fetched, or shares memory with the store", b.Bytes)
		}
	}
	impl.StoreOk(s)
	impl.Taken(s)
	if string(room) != held || !slices.Equal(s.Blobs, before) || s.Room != 24 || !slices.Equal(s.Blobs[3:5], []impl.Blob{behind, behind}) {
		t.Errorf("the store handed in, or what is behind it, is another one now")
	}
}

func mustShareNothing(t *testing.T, got, s impl.Store, bytes string) {
	t.Helper()
	for i, a := range got.Blobs {
		if sharing(a.Bytes, bytes) {
			t.Errorf("%q shares memory with the text handed in", a.Bytes)
		}
		for j := range s.Blobs {
			if &got.Blobs[i] == &s.Blobs[j] || sharing(a.Bytes, s.Blobs[j].Bytes) {
				t.Errorf("%q shares memory with the store handed in", a.Bytes)
			}
		}
	}
}

func TestWrongStoresStay(t *testing.T) {
	for name, s := range wrongStores() {
		before := slices.Clone(s.Blobs)
		impl.Kept(s, "new")
		impl.Fetched(s, 17)
		impl.Taken(s)
		if !slices.Equal(s.Blobs, before) {
			t.Errorf("%s: its Blobs are others now", name)
		}
	}
}

// Promise 21, of Chunks and Joined, also where one piece is the whole text.
func TestChunksAndJoinedAreNewMemory(t *testing.T) {
	room := make([]byte, 64)
	texts := laidOver(room, "package main\nimport ab\n", "spare room")
	held := string(room)
	for size := int64(2); size < 30; size++ {
		pieces := impl.Chunks(texts[0], size)
		for i, a := range pieces {
			if sharing(a, texts[0]) {
				t.Errorf("piece %d by %d shares memory with the text", i, size)
			}
			for _, b := range pieces[:i] {
				if sharing(a, b) {
					t.Errorf("two pieces by %d share memory", size)
				}
			}
		}
	}
	for _, list := range [][]string{texts[:1], texts, {"", texts[0], ""}} {
		before := slices.Clone(list)
		joined := impl.Joined(list)
		if sharing(joined, texts[0]) || sharing(joined, texts[1]) {
			t.Errorf("Joined of %q shares memory with a text", list)
		}
		if !slices.Equal(list, before) {
			t.Errorf("the list is now %q", list)
		}
	}
	if string(room) != held {
		t.Errorf("the text handed in is now %q", room)
	}
}
