package hash_test

import (
	"bytes"
	"math/rand"
	"slices"
	"strings"
	"testing"

	"stackyard/api"
	"stackyard/hash"
)

func TestSumExamples(t *testing.T) {
	for _, c := range []struct {
		parts []string
		want  string
	}{
		{nil, "69217a3079908094e11121d042354a7c1f55b6482ca1a51e1b250dfd1ed0eef9"},
		{[]string{""}, "69217a3079908094e11121d042354a7c1f55b6482ca1a51e1b250dfd1ed0eef9"},
		{[]string{"abc"}, "508c5e8c327c14e2e1a72ba34eeb452f37458b209ed63a294d999b4c86675982"},
		{[]string{"ab", "c"}, "508c5e8c327c14e2e1a72ba34eeb452f37458b209ed63a294d999b4c86675982"},
		{[]string{"", "a", "", "bc", ""}, "508c5e8c327c14e2e1a72ba34eeb452f37458b209ed63a294d999b4c86675982"},
		{[]string{strings.Repeat("x", 1)}, "ec308c07c83582c663e922066c44923bf71bc104ffb82479fb06dc22503c9b0c"},
		{[]string{strings.Repeat("x", 55)}, "e6135bdf4a709d0f768f609be15673ba474b9c8b825fc1e0ba5abeb19d26322c"},
		{[]string{strings.Repeat("x", 56)}, "e206de7cb056c8102f04e9eb8ada9eca6e03b5d603787a6d2d6415b1cfc7cfc4"},
		{[]string{strings.Repeat("x", 63)}, "b50445cd4b286a6de121a47cff94a42c92539a13f27c23562b5c2f719ecaf1f3"},
		{[]string{strings.Repeat("x", 64)}, "c13eb20b85b1d6a72d52af717429fc54eacc63fecde1295b26f0fa251bdcf40e"},
		{[]string{strings.Repeat("x", 65)}, "77f538c970521d7f5b94c5e8c88b8ce35661dfc6d61b5bc837da31e543cc6b81"},
		{[]string{strings.Repeat("x", 127)}, "91c4b2c45a1ae44067382550f189e7983ac770b0ad06430657b776261e6fe8b6"},
		{[]string{strings.Repeat("x", 128)}, "0b81df8f2e8616dc992bff767a30f204a479af922fcb6bcd0a4bebeead30ab06"},
		{[]string{strings.Repeat("x", 129)}, "8649145538784833c3d83f5d9dd936519c0e6804dc2adbdddb020143244a33f6"},
		{[]string{strings.Repeat("x", 1000)}, "267200e86d237971cc5dac276d6e19b4f20aba6a1cf52c90cd6321d5410c4161"},
		{[]string{strings.Repeat("y", 64), strings.Repeat("z", 64)}, "086af12a1fd04a99a6db4a90f0914c15c4c06f32826d6013c81f560375cc6edf"},
		{[]string{"\x00"}, "e34d74dbaf4ff4c6abd871cc220451d2ea2648846c7757fbaac82fe51ad64bea"},
		{[]string{strings.Repeat("\x00", 64)}, "ae09db7cd54f42b490ef09b6bc541af688e4959bb8c53f359a6f56e38ab454a3"},
		{[]string{strings.Repeat("\xff", 200000)}, "539bd3d71e989098f8854bb9f158e834a836492985b8e6f78ddbdb1857de018d"},
	} {
		var parts [][]byte
		for _, p := range c.parts {
			parts = append(parts, []byte(p))
		}
		if got := hash.Hex(hash.Sum(parts...)); got != c.want {
			t.Errorf("%d parts: %s, not %s", len(parts), got, c.want)
		}
	}
}

// A hash of the hashes of all lengths from 0 to 300: their bytes are 0, 1, 2 and so on.
func TestSumAllLengths(t *testing.T) {
	var all []byte
	for n := range 301 {
		b := make([]byte, n)
		for i := range b {
			b[i] = byte(i)
		}
		d := hash.Sum(b)
		all = append(all, d[:]...)
	}
	if got := hash.Hex(hash.Sum(all)); got != "85d048a8cf3e9f1b86494a2a44e713b95be4090b590571a1a19c5cfe9b741075" {
		t.Error(got)
	}
}

func TestSumParts(t *testing.T) {
	r := rand.New(rand.NewSource(1))
	for _, n := range []int{0, 1, 63, 64, 65, 127, 128, 129, 192, 193, 1000} {
		b := make([]byte, n)
		r.Read(b)
		kept := bytes.Clone(b)
		want := hash.Sum(b)
		for cut := range n + 1 {
			if hash.Sum(b[:cut], b[cut:]) != want {
				t.Fatal(n, cut)
			}
		}
		if hash.Sum(slices.Collect(slices.Chunk(b, 1))...) != want || hash.Sum(slices.Collect(slices.Chunk(b, 7))...) != want {
			t.Fatal(n)
		}
		if n > 0 && hash.Sum(b[:n-1]) == want {
			t.Fatal(n)
		}
		if hash.Sum(append(bytes.Clone(b), 0)) == want {
			t.Fatal(n)
		}
		if !bytes.Equal(b, kept) {
			t.Fatal("the bytes were changed")
		}
	}
}

func TestHexBothWays(t *testing.T) {
	var d [32]byte
	if hash.Hex(d) != strings.Repeat("0", 64) {
		t.Error(hash.Hex(d))
	}
	for c := range 256 {
		for i := range d {
			d[i] = byte(c + 37*i)
		}
		s := hash.Hex(d)
		if back, e := hash.Unhex(s); back != d || e != 0 {
			t.Fatal(c, back, e)
		}
	}
	d = [32]byte{0: 0x1f, 1: 0xa0, 31: 0x9c}
	if s := hash.Hex(d); s != "1fa0"+strings.Repeat("0", 58)+"9c" {
		t.Error(s)
	}
}

func TestUnhexRejects(t *testing.T) {
	good := hash.Hex(hash.Sum([]byte("x")))
	for _, s := range []string{"", good[:63], good + "0", good[:62], good + good, strings.ToUpper(good), strings.Repeat("A", 64)} {
		if d, e := hash.Unhex(s); d != [32]byte{} || e != api.ErrArg {
			t.Error(s, d, e)
		}
	}
	for c := range 256 {
		want := api.ErrArg
		if strings.ContainsRune("0123456789abcdef", rune(c)) {
			want = api.OK
		}
		for _, i := range []int{0, 1, 30, 63} {
			b := []byte(good)
			b[i] = byte(c)
			d, e := hash.Unhex(string(b))
			if e != want || e == 0 && hash.Hex(d) != string(b) || e != 0 && d != [32]byte{} {
				t.Fatal(i, c, e)
			}
		}
	}
}
