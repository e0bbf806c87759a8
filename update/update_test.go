package update_test

import (
	"encoding/hex"
	"math"
	"slices"
	"strings"
	"testing"

	"chantry/api"
	"chantry/sha"
	"chantry/update"
)

// id answers an ID of bytes that are all the same.
func id(c byte) string {
	return strings.Repeat(string([]byte{c}), 32)
}

// rising answers so many IDs, each greater than the one ahead.
func rising(many int) []string {
	var l []string
	for i := range many {
		l = append(l, id(byte(3+7*i)))
	}
	return l
}

func unhexed(s string) string {
	b, err := hex.DecodeString(s)
	if err != nil {
		panic(err)
	}
	return string(b)
}

// deed is an operation that may be, and its bytes.
type deed struct {
	op    api.Op
	bytes string
}

// deeds are operations of each kind and form, with their bytes to the letter; the last one is as long as one may be.
func deeds() []deed {
	twelve, many := "abcdefghijkl", strings.Repeat("y", 48)
	return []deed{
		{api.Op{Kind: api.OpMerge}, "\x07"},
		{api.Op{Kind: api.OpCount, Name: "n", N: 5}, "\x01\x01n\x00\x05\x00\x00\x00"},
		{api.Op{Kind: api.OpCount, Name: "n"}, "\x01\x01n\x00\x00\x00\x00\x00"},
		{api.Op{Kind: api.OpCount, Name: "a-1", N: -api.MaxNum}, "\x01\x03a-1\x01\xff\xff\xff\x7f"},
		{api.Op{Kind: api.OpAdd, Name: "s", Text: "ab"}, "\x02\x01s\x02ab"},
		{api.Op{Kind: api.OpAdd, Name: "s"}, "\x02\x01s\x00"},
		{api.Op{Kind: api.OpRemove, Name: "s", Text: "\x00\xff"}, "\x03\x01s\x02\x00\xff"},
		{api.Op{Kind: api.OpWrite, Name: twelve, Text: many}, "\x04\x0c" + twelve + "\x30" + many},
		{api.Op{Kind: api.OpInsert, Name: "l", Text: "ab"}, "\x05\x01l\x02ab\x00"},
		{api.Op{Kind: api.OpInsert, Name: "l", Text: "ab", At: id(9)}, "\x05\x01l\x02ab\x01" + id(9)},
		{api.Op{Kind: api.OpDelete, Name: "l", At: id(9)}, "\x06\x01l" + id(9)},
		{api.Op{Kind: api.OpInsert, Name: twelve, Text: many, At: id(255)}, "\x05\x0c" + twelve + "\x30" + many + "\x01" + id(255)},
	}
}

// noOps are operations that may not be.
func noOps() []api.Op {
	return []api.Op{
		{}, {Kind: -1}, {Kind: 8}, {Kind: 256 + 7}, {Kind: 1<<32 + 7}, {Kind: math.MinInt}, {Kind: math.MaxInt},
		{Kind: api.OpMerge, Name: "n"}, {Kind: api.OpMerge, Text: "x"}, {Kind: api.OpMerge, N: 1}, {Kind: api.OpMerge, At: id(1)},
		{Kind: api.OpCount}, {Kind: api.OpCount, Name: "N"}, {Kind: api.OpCount, Name: "n", N: api.MaxNum + 1}, {Kind: api.OpCount, Name: "n", N: -api.MaxNum - 1}, {Kind: api.OpCount, Name: "n", N: math.MinInt},
		{Kind: api.OpAdd, Text: "ab"}, {Kind: api.OpAdd, Name: "abcdefghijklm"}, {Kind: api.OpAdd, Name: "s", Text: strings.Repeat("x", 49)}, {Kind: api.OpAdd, Name: "s", At: id(1)},
		{Kind: api.OpRemove, Name: "s", N: 1}, {Kind: api.OpRemove, Name: "s", Text: strings.Repeat("x", 384)}, {Kind: api.OpWrite, Name: "s t"}, {Kind: api.OpWrite, Name: "s", Text: strings.Repeat("x", 1<<18+1)},
		{Kind: api.OpInsert, Name: "l"}, {Kind: api.OpInsert, Name: "l", At: id(1)}, {Kind: api.OpInsert, Name: "l", Text: "ab", At: id(1)[:31]}, {Kind: api.OpInsert, Name: "l", Text: "ab", At: id(1) + "x"},
		{Kind: api.OpDelete, Name: "l"}, {Kind: api.OpDelete, Name: "l", At: "x"}, {Kind: api.OpDelete, At: id(1)}, {Kind: api.OpDelete, Name: "l", Text: "x", At: id(1)},
	}
}

// noAuthors may make no update.
var noAuthors = []int{-1, 256, -2, 257, 256 + 3, -256, -253, 1 << 16, 1 << 31, 1 << 32, 1<<32 + 3, -1 << 32, math.MaxInt, math.MinInt, math.MinInt + 3}

// noPreds are lists, not too long, that do not rise.
func noPreds() [][]string {
	l := [][]string{
		{""}, {"x"}, {id(1)[:31]}, {id(1) + "\x01"}, {id(1) + id(1)}, {strings.Repeat("0a", 32)}, {strings.Repeat("é", 32)}, {"", ""}, {id(1), ""}, {"", id(1)}, {id(1), "x", id(2)},
		{id(1), id(1)}, {id(2), id(1)}, {id(255), id(0)}, {id(1), id(2), id(2)}, {id(1), id(1), id(2)}, {id(1), id(3), id(2)}, {id(2), id(1), id(3)}, {id(1), id(2), id(1)}, {id(127), id(128), id(0)},
		{id(1), id(1)[:31] + "\x00"}, {"\x01" + id(0)[1:], "\x00" + id(255)[1:]}, {id(1), id(2), id(3)[:31]}, {id(1), id(2) + "\x02"},
	}
	for many := 2; many <= 8; many++ {
		falling := rising(many)
		slices.Reverse(falling)
		l = append(l, falling)
		for i := range many {
			for _, wrong := range []string{"", "x", rising(many)[i][1:], rising(many)[i] + "\x00"} {
				one := rising(many)
				one[i] = wrong
				l = append(l, one)
			}
			if i > 0 {
				twice, turned := rising(many), rising(many)
				twice[i] = twice[i-1]
				turned[i-1], turned[i] = turned[i], turned[i-1]
				l = append(l, twice, turned)
			}
		}
	}
	return l
}

// somePreds are lists that rise, of each length that may be.
func somePreds() [][]string {
	l := [][]string{nil, {}, {id(0)}, {id(255)}, {id(0), id(255)}, {id(127), id(128)}, {id(1)[:31] + "\x00", id(1)}, {id(1), id(1)[:31] + "\x02"}, {"\x00" + id(255)[1:], "\x01" + id(0)[1:]}}
	for many := 1; many <= 8; many++ {
		l = append(l, rising(many))
	}
	return l
}

// encoded answers the bytes of an update with that operation, as the document says them.
func encoded(author int, preds []string, d deed) string {
	return string([]byte{byte(author), byte(len(preds))}) + strings.Join(preds, "") + d.bytes
}

// eachGood hands out updates that may be, with their bytes.
func eachGood(do func(u api.Update, s string)) {
	for _, author := range []int{0, 1, 3, 7, 8, 127, 128, 254, 255} {
		for _, preds := range somePreds() {
			for _, d := range deeds() {
				do(api.Update{Author: author, Preds: preds, Op: d.op}, encoded(author, preds, d))
			}
		}
	}
}

// alike is the tests' own rule of what is the same.
func alike(a, b api.Update) bool {
	return a.Author == b.Author && len(a.Preds) == len(b.Preds) && strings.Join(a.Preds, ",") == strings.Join(b.Preds, ",") && a.Op == b.Op
}

func nothing(u api.Update) bool {
	return u.Author == 0 && len(u.Preds) == 0 && u.Op == api.Op{}
}

// taken fails unless an update is checked, put, got and made an item as these bytes.
func taken(t *testing.T, u api.Update, s string) {
	t.Helper()
	ahead := slices.Clone(u.Preds)
	if e := update.Check(u); e != api.OK {
		t.Fatalf("Check(%#v): %d", u, e)
	}
	b, e := update.Put(u)
	if e != api.OK || string(b) != s {
		t.Fatalf("Put(%#v): %x, %d, want %x", u, b, e, s)
	}
	if len(b) > 384 {
		t.Fatalf("Put(%#v): %d bytes", u, len(b))
	}
	if item, e := update.Of(u); e != api.OK || string(item.Text) != s || item.ID != sha.ID([]byte(s)) {
		t.Fatalf("Of(%#v): %x, %x, %d, want %x", u, item.ID, item.Text, e, s)
	}
	if !slices.Equal(u.Preds, ahead) {
		t.Fatalf("the Preds %x have become %x", ahead, u.Preds)
	}
	got(t, s, u)
}

// got fails unless that update is got of these bytes, and put as just these, and they are left as they were.
func got(t *testing.T, s string, want api.Update) {
	t.Helper()
	b := []byte(s)
	u, e := update.Get(b)
	if e != api.OK || !alike(u, want) {
		t.Fatalf("Get(%x): %#v, %d, want %#v", s, u, e, want)
	}
	if !update.Same(u, want) || !update.Same(want, u) {
		t.Fatalf("%#v and %#v are not the same", u, want)
	}
	if again, e := update.Put(u); e != api.OK || string(again) != s {
		t.Fatalf("what is got of %x is put as %x, %d", s, again, e)
	}
	if string(b) != s {
		t.Fatalf("Get(%x) has made %x of it", s, b)
	}
}

// refused fails unless an update is neither checked, nor put, nor made an item, and this is why.
func refused(t *testing.T, u api.Update, want api.Errno) {
	t.Helper()
	ahead := slices.Clone(u.Preds)
	if e := update.Check(u); e != want {
		t.Fatalf("Check(%#v): %d, want %d", u, e, want)
	}
	if b, e := update.Put(u); e != want || len(b) != 0 {
		t.Fatalf("Put(%#v): %x, %d, want %d", u, b, e, want)
	}
	if item, e := update.Of(u); e != want || item.ID != "" || len(item.Text) != 0 {
		t.Fatalf("Of(%#v): %x, %x, %d, want %d", u, item.ID, item.Text, e, want)
	}
	if !slices.Equal(u.Preds, ahead) {
		t.Fatalf("the Preds %x have become %x", ahead, u.Preds)
	}
}

// 15.1: the limits are these, of which the tests speak.
func TestLimits(t *testing.T) {
	if api.MaxPreds != 8 || api.MaxUpdate != 384 || api.IDSize != 32 {
		t.Fatal(api.MaxPreds, api.MaxUpdate, api.IDSize)
	}
	all := deeds()
	longest := all[len(all)-1].bytes
	for _, d := range all {
		if len(d.bytes) > len(longest) {
			t.Fatalf("%x is longer than %x", d.bytes, longest)
		}
	}
	if len(longest) != 96 {
		t.Fatalf("%d bytes", len(longest))
	}
}

// 15.1: the chapter's example and others, to the letter, with their IDs.
func TestToTheLetter(t *testing.T) {
	ones, twos, threes := strings.Repeat("01", 32), strings.Repeat("02", 32), strings.Repeat("03", 32)
	for _, c := range []struct {
		u         api.Update
		bytes, id string
	}{
		{api.Update{Author: 3, Op: api.Op{Kind: api.OpMerge}}, "030007", "7bdc54348d829b96289a8a62a44bf92db9ee3f504544289c6e36053603f593eb"},
		{api.Update{Op: api.Op{Kind: api.OpMerge}}, "000007", "4fca068fbfc9bdfd1a5c16427b0e34c5339c4c5b581769d9e8ced90a8b3efe57"},
		{api.Update{Author: 255, Preds: []string{id(1)}, Op: api.Op{Kind: api.OpCount, Name: "n", N: 5}}, "ff01" + ones + "01016e0005000000", "e313d591465f1e178ed20abdbee81a849b9082d5f4a27477d7d66477611384ec"},
		{api.Update{Author: 128, Preds: []string{id(1), id(2)}, Op: api.Op{Kind: api.OpAdd, Name: "s", Text: "ab"}}, "8002" + ones + twos + "020173026162", "0de90fe28618b7228eb4cfed0b9b89661bc5b1fd73f61c9425acc49ac8ff647c"},
		{api.Update{Author: 1, Preds: []string{id(2)}, Op: api.Op{Kind: api.OpRemove, Name: "s"}}, "0101" + twos + "03017300", "9b92025dc23b9278ff88b74e1c4dd2edd049f9f4bdb60ca8a5e5e09c5ff32ebf"},
		{api.Update{Author: 16, Op: api.Op{Kind: api.OpWrite, Name: "r", Text: "é"}}, "1000" + "04017202c3a9", "e748c71517f9a38fb38effc744f935e6ea3962fbf96e5b704eb7519089d508d7"},
		{api.Update{Author: 9, Preds: []string{id(1), id(2), id(3)}, Op: api.Op{Kind: api.OpInsert, Name: "l", Text: "a", At: id(2)}}, "0903" + ones + twos + threes + "05016c016101" + twos, "f180d8f7905bf624ca8e2bb51370e6c261f8308ad1f1ae757316569ee64f33e9"},
		{api.Update{Author: 10, Preds: []string{id(3)}, Op: api.Op{Kind: api.OpDelete, Name: "l", At: id(1)}}, "0a01" + threes + "06016c" + ones, "6a3ba329ceba4375bd7b95b5462c0ee27ea748144ad07f799ef124476e43d8fd"},
	} {
		taken(t, c.u, unhexed(c.bytes))
		if item, e := update.Of(c.u); e != api.OK || item.ID != unhexed(c.id) {
			t.Errorf("Of(%#v): %x, %d, want %s", c.u, item.ID, e, c.id)
		}
		if item := update.Item([]byte(unhexed(c.bytes))); item.ID != unhexed(c.id) || string(item.Text) != unhexed(c.bytes) {
			t.Errorf("Item(%s): %x, %x, want %s", c.bytes, item.ID, item.Text, c.id)
		}
	}
}

// 15.1, 15.2: whatever may be is checked, put, got, and made an item.
func TestWhatMayBe(t *testing.T) {
	eachGood(func(u api.Update, s string) { taken(t, u, s) })
}

// 15.1: each author from 0 to 255 may be, and no other one.
func TestEachAuthor(t *testing.T) {
	for author := -600; author < 900; author++ {
		for _, d := range deeds() {
			u := api.Update{Author: author, Preds: rising(author & 7), Op: d.op}
			if author < 0 || author > 255 {
				refused(t, u, api.ErrArg)
				continue
			}
			taken(t, u, encoded(author, u.Preds, d))
		}
	}
	for _, author := range noAuthors {
		refused(t, api.Update{Author: author, Op: api.Op{Kind: api.OpMerge}}, api.ErrArg)
	}
}

// 15.1: MaxPreds may be, with the longest operation, too; one more may not, whether they rise or not.
func TestHowManyPreds(t *testing.T) {
	for _, d := range deeds() {
		for many := range 12 {
			u := api.Update{Author: 3, Preds: rising(many), Op: d.op}
			if many > 8 {
				refused(t, u, api.ErrMany)
				continue
			}
			taken(t, u, encoded(3, u.Preds, d))
			if b, _ := update.Put(u); len(b) != 2+32*many+len(d.bytes) {
				t.Fatalf("%d bytes", len(b))
			}
		}
		for _, many := range []int{9, 10, 16, 255, 256, 257, 256 + 3, 1 << 10, 1 << 16} {
			falling := rising(9)
			slices.Reverse(falling)
			for _, l := range [][]string{make([]string, many), slices.Repeat([]string{id(1)}, many), append(rising(8), make([]string, many-8)...), append(falling, make([]string, many-9)...)} {
				refused(t, api.Update{Author: 3, Preds: l, Op: d.op}, api.ErrMany)
			}
		}
	}
}

// 15.1: Preds that fall, that hold one twice, or what is no ID, may not be.
func TestPredsRefused(t *testing.T) {
	for _, preds := range noPreds() {
		for _, d := range deeds() {
			refused(t, api.Update{Author: 3, Preds: preds, Op: d.op}, api.ErrArg)
		}
	}
}

// 15.1: an update with an operation that may not be may not be.
func TestOpRefused(t *testing.T) {
	for _, o := range noOps() {
		for _, preds := range somePreds() {
			refused(t, api.Update{Author: 3, Preds: preds, Op: o}, api.ErrArg)
		}
	}
}

// 15.1: of several faults the first one in the chapter's order is told.
func TestFirstFault(t *testing.T) {
	many := [][]string{rising(9), rising(20), make([]string, 9), slices.Repeat([]string{id(1)}, 9)}
	few := append(somePreds(), noPreds()...)
	ops := append(noOps(), api.Op{Kind: api.OpMerge}, api.Op{Kind: api.OpCount, Name: "n", N: 5})
	for _, o := range ops {
		for _, preds := range many {
			for _, author := range noAuthors {
				refused(t, api.Update{Author: author, Preds: preds, Op: o}, api.ErrArg)
			}
			refused(t, api.Update{Author: 0, Preds: preds, Op: o}, api.ErrMany)
			refused(t, api.Update{Author: 255, Preds: preds, Op: o}, api.ErrMany)
		}
		for _, preds := range few {
			refused(t, api.Update{Author: -1, Preds: preds, Op: o}, api.ErrArg)
			refused(t, api.Update{Author: 256, Preds: preds, Op: o}, api.ErrArg)
		}
	}
	for _, o := range noOps() {
		for _, preds := range noPreds() {
			refused(t, api.Update{Author: 3, Preds: preds, Op: o}, api.ErrArg)
		}
	}
}

// 15.1: an item is of any bytes, be they an update's or not.
func TestItem(t *testing.T) {
	l := []string{"", "a", "abc", "\x00", "\x03\x00\x07", "\x03\x00\x07\x07", "\x03\x00", strings.Repeat("\x00", 384), strings.Repeat("\xff", 385), strings.Repeat("x", 1<<18+1)}
	for size := range 200 {
		l = append(l, strings.Repeat("a", size), strings.Repeat("\x80", size))
	}
	for _, s := range l {
		b := []byte(s)
		item := update.Item(b)
		if item.ID != sha.ID([]byte(s)) || string(item.Text) != s {
			t.Fatalf("Item(%x): %x, %x", s, item.ID, item.Text)
		}
		if string(b) != s {
			t.Fatalf("Item(%x) has made %x of it", s, b)
		}
	}
	none := unhexed("e3b0c44298fc1c149afbf4c8996fb92427ae41e4649b934ca495991b7852b855")
	for _, b := range [][]byte{nil, {}} {
		if item := update.Item(b); item.ID != none || len(item.Text) != 0 {
			t.Fatalf("Item(%v): %x, %x", b, item.ID, item.Text)
		}
	}
	if item := update.Item([]byte("abc")); item.ID != unhexed("ba7816bf8f01cfea414140de5dae2223b00361a396177a9cb410ff61f20015ad") {
		t.Fatalf("Item of abc: %x", item.ID)
	}
}

// same fails unless Same answers so, both ways round, and leaves both as they were.
func same(t *testing.T, a, b api.Update, want bool) {
	t.Helper()
	aheadA, aheadB := slices.Clone(a.Preds), slices.Clone(b.Preds)
	if update.Same(a, b) != want || update.Same(b, a) != want {
		t.Fatalf("the same: %t: %#v and %#v", !want, a, b)
	}
	if !slices.Equal(a.Preds, aheadA) || !slices.Equal(b.Preds, aheadB) {
		t.Fatalf("%x and %x have become %x and %x", aheadA, aheadB, a.Preds, b.Preds)
	}
}

// 15.1: updates that differ in one part alone are not the same, whether they may be or not.
func TestSameOfEachPart(t *testing.T) {
	full := func() api.Update {
		return api.Update{Author: 3, Preds: rising(4), Op: api.Op{Kind: api.OpInsert, Name: "l", Text: "ab", N: 5, At: id(9)}}
	}
	for _, whole := range []api.Update{full(), {}, {Author: 3, Op: api.Op{Kind: api.OpMerge}}, {Author: -1, Preds: make([]string, 9), Op: api.Op{Kind: 9}}} {
		own := func() api.Update { // so that it is not the same list alone
			u := whole
			u.Preds = slices.Clone(whole.Preds)
			return u
		}
		same(t, whole, own(), true)
		for _, turn := range []func(u *api.Update){
			func(u *api.Update) { u.Author++ },
			func(u *api.Update) { u.Author += 256 },
			func(u *api.Update) { u.Author += 1 << 32 },
			func(u *api.Update) { u.Preds = append(u.Preds, "") },
			func(u *api.Update) { u.Preds = append(u.Preds, id(200)) },
			func(u *api.Update) { u.Preds = append([]string{id(0)}, u.Preds...) },
			func(u *api.Update) { u.Op.Kind++ },
			func(u *api.Update) { u.Op.Kind += 256 },
			func(u *api.Update) { u.Op.Name += "m" },
			func(u *api.Update) { u.Op.Text += "\x00" },
			func(u *api.Update) { u.Op.N = -u.Op.N - 1 },
			func(u *api.Update) { u.Op.N += 1 << 32 },
			func(u *api.Update) { u.Op.At += "x" },
		} {
			u := own()
			turn(&u)
			same(t, whole, u, false)
			same(t, u, u, true)
		}
	}
	for i := range 4 {
		for _, other := range []string{"", "x", id(0), rising(4)[i] + "x", rising(4)[i][:31], rising(4)[i][:31] + "\xee", "\xee" + rising(4)[i][1:], rising(4)[(i+1)%4]} {
			u := full()
			u.Preds[i] = other
			same(t, full(), u, false)
		}
		u := full()
		u.Preds = slices.Delete(u.Preds, i, i+1)
		same(t, full(), u, false)
		u = full()
		u.Preds[i], u.Preds[(i+1)%4] = u.Preds[(i+1)%4], u.Preds[i]
		same(t, full(), u, false)
	}
	u := full()
	u.Preds = nil
	same(t, full(), u, false)
	for _, other := range []api.Op{{Kind: 5, Name: "m", Text: "ab", N: 5, At: id(9)}, {Kind: 5, Name: "l", Text: "ac", N: 5, At: id(9)}, {Kind: 5, Name: "l", Text: "ab", N: 5, At: id(8)}, {Kind: 5, Name: "l", Text: "ab", N: 5}, {Kind: 5, Name: "l", N: 5, At: id(9)}, {Kind: 5, Text: "ab", N: 5, At: id(9)}, {Kind: 5, Name: "l", Text: "ab", N: -5, At: id(9)}, {Kind: 4, Name: "l", Text: "ab", N: 5, At: id(9)}, {}} {
		u := full()
		u.Op = other
		same(t, full(), u, false)
	}
}

// R3: no Preds are no Preds, as nil or as an empty list.
func TestSameOfNoPreds(t *testing.T) {
	for _, d := range deeds() {
		a, b := api.Update{Author: 3, Op: d.op}, api.Update{Author: 3, Preds: []string{}, Op: d.op}
		same(t, a, b, true)
		taken(t, b, encoded(3, nil, d))
		b.Preds = make([]string, 0, 5)
		same(t, a, b, true)
	}
}

// 15.1, 15.2: of updates that may be just those are the same that have the same bytes, and so the same ID.
func TestSameOfAllPairs(t *testing.T) {
	var l []api.Update
	var puts, names []string
	for _, author := range []int{0, 1, 255} {
		for _, preds := range somePreds() {
			for _, d := range deeds() {
				u := api.Update{Author: author, Preds: preds, Op: d.op}
				item, e := update.Of(u)
				if e != api.OK {
					t.Fatalf("Of(%#v): %d", u, e)
				}
				l, puts, names = append(l, u), append(puts, string(item.Text)), append(names, item.ID)
			}
		}
	}
	for i := range l {
		for j := range l {
			want := alike(l[i], l[j])
			if update.Same(l[i], l[j]) != want || (puts[i] == puts[j]) != want || (names[i] == names[j]) != want {
				t.Fatalf("%#v and %#v: they are the same: %t", l[i], l[j], want)
			}
		}
	}
}

// R4, R5: what is put, and what is an item, is new each time, and shares nothing with what was handed in.
func TestPutStandsAlone(t *testing.T) {
	eachGood(func(u api.Update, s string) {
		one, e := update.Put(u)
		two, f := update.Put(u)
		item, g := update.Of(u)
		if e != api.OK || f != api.OK || g != api.OK {
			t.Fatal(e, f, g)
		}
		one = append(one, 77)[:len(one)]
		for i := range one {
			one[i] ^= 255
		}
		if string(two) != s || string(item.Text) != s {
			t.Fatalf("Put(%#v) has become %x, %x", u, two, item.Text)
		}
		other, again := update.Item(two), update.Item(two)
		for i := range two {
			two[i] ^= 255
		}
		for i := range other.Text {
			other.Text[i] = 'q'
		}
		if string(again.Text) != s || again.ID != item.ID || string(item.Text) != s {
			t.Fatalf("Item(%x) has become %x", s, again.Text)
		}
	})
}

// R4: an item of a part of bytes leaves what stands behind it.
func TestItemStandsAlone(t *testing.T) {
	all := []byte("abcdefgh")
	item := update.Item(all[:3])
	_ = append(item.Text, "XYZ"...)
	if string(all) != "abcdefgh" {
		t.Fatalf("it has become %s", all)
	}
	copy(all, "........")
	if string(item.Text) != "abc" {
		t.Fatalf("the item has become %s", item.Text)
	}
	none := update.Item(all[:0])
	_ = append(none.Text, "XYZ"...)
	if string(all) != "........" {
		t.Fatalf("it has become %s", all)
	}
}
