package quantity_test

import (
	"math"
	"math/big"
	"math/rand"
	"regexp"
	"strconv"
	"strings"
	"testing"

	"scutage/api"
	"scutage/quantity"
)

// asText says once more, in another way, what a quantity's text looks like.
var asText = regexp.MustCompile(`\A(0|[1-9][0-9]*)(|k|M|G|T|Ki|Mi|Gi|Ti)\z`)

// rising are the suffixes, their factors rising.
func rising() []string {
	return []string{"", "k", "Ki", "M", "Mi", "G", "Gi", "T", "Ti"}
}

// factor says once more, in another way, what a suffix stands for: its letter's power of 1000, or of 1024.
func factor(suffix string) *big.Int {
	base := int64(1000)
	if strings.HasSuffix(suffix, "i") {
		base = 1024
	}
	power := int64(0)
	if suffix != "" {
		power = int64(strings.Index("kmgt", strings.ToLower(suffix[:1]))) + 1
	}
	return new(big.Int).Exp(big.NewInt(base), big.NewInt(power), nil)
}

// read says once more, in another way, what Parse tells.
func read(s string) (int64, api.Errno) {
	parts := asText.FindStringSubmatch(s)
	if parts == nil {
		return 0, api.ErrForm
	}
	n, _ := new(big.Int).SetString(parts[1], 10)
	n.Mul(n, factor(parts[2]))
	if !n.IsInt64() {
		return 0, api.ErrFull
	}
	return n.Int64(), api.OK
}

// own says once more, in another way, what a quantity's own text is: of its texts the one with the greatest factor.
func own(n int64) string {
	text := ""
	for _, s := range textsOf(n) {
		text = s
	}
	if n == 0 {
		return "0"
	}
	return text
}

// textsOf are all texts of a quantity, their factors rising.
func textsOf(n int64) []string {
	var l []string
	for _, suffix := range rising() {
		number, rest := new(big.Int).QuoRem(big.NewInt(n), factor(suffix), new(big.Int))
		if rest.Sign() == 0 {
			l = append(l, number.String()+suffix)
		}
	}
	return l
}

// texts are all texts of at most n of the pieces.
func texts(n int, pieces ...string) []string {
	all, last := []string{""}, []string{""}
	for range n {
		var next []string
		for _, s := range last {
			for _, p := range pieces {
				next = append(next, s+p)
			}
		}
		all, last = append(all, next...), next
	}
	return all
}

// quantities are 0, the first ones, what stands about each factor's products and powers, the greatest ones, and others of all lengths.
func quantities() []int64 {
	var l []int64
	add := func(b *big.Int) {
		for d := int64(-1); d <= 1; d++ {
			if x := new(big.Int).Add(b, big.NewInt(d)); x.Sign() >= 0 && x.IsInt64() {
				l = append(l, x.Int64())
			}
		}
	}
	for n := range int64(5000) {
		l = append(l, n)
	}
	most := big.NewInt(math.MaxInt64)
	for _, a := range rising() {
		fits := new(big.Int).Quo(most, factor(a))
		add(new(big.Int).Mul(fits, factor(a)))
		for _, m := range []int64{1, 2, 9, 10, 15, 999, 1000, 1001, 1023, 1024, 1025} {
			add(new(big.Int).Mul(factor(a), big.NewInt(m)))
		}
		for _, b := range rising() {
			add(new(big.Int).Mul(factor(a), factor(b)))
		}
	}
	for n := range uint(64) {
		add(new(big.Int).Lsh(big.NewInt(1), n))
	}
	for n := range int64(19) {
		add(new(big.Int).Exp(big.NewInt(10), big.NewInt(n), nil))
	}
	r := rand.New(rand.NewSource(3))
	for range 200 {
		for n := range uint(63) {
			l = append(l, r.Int63()>>n)
		}
	}
	return append(l, math.MaxInt64-1, math.MaxInt64)
}

// P3.1, Factor: each suffix, written out.
func TestFactorTells(t *testing.T) {
	for s, want := range map[string]int64{
		"":   1,
		"k":  1000,
		"M":  1000000,
		"G":  1000000000,
		"T":  1000000000000,
		"Ki": 1024,
		"Mi": 1048576,
		"Gi": 1073741824,
		"Ti": 1099511627776,
	} {
		if got := quantity.Factor(s); got != want {
			t.Errorf("%q: %d", s, got)
		}
	}
}

// P3.1, Factor: what is no suffix, and near one.
func TestFactorOfNoSuffix(t *testing.T) {
	is := map[string]bool{}
	for _, s := range rising() {
		is[s] = true
	}
	for _, s := range texts(3, "k", "K", "m", "M", "g", "G", "t", "T", "i", "I", "P", "E", "B", "0", "1", " ", "-", "\x00", "\xff") {
		if got := quantity.Factor(s); is[s] != (got != 0) {
			t.Errorf("%q: %d", s, got)
		}
	}
	for b := range 256 {
		if s := string([]byte{byte(b)}); is[s] != (quantity.Factor(s) != 0) {
			t.Errorf("%q: %d", s, quantity.Factor(s))
		}
	}
	for _, s := range []string{"ki", "KI", "kI", "mi", "gi", "ti", "TI", "Pi", "none", "Тi", "Ｔ", "К", "\u212ai", "1k", "k1", "Ti ", " Ti", "Ti\n", strings.Repeat("k", 1000)} {
		if got := quantity.Factor(s); got != 0 {
			t.Errorf("%q: %d", s, got)
		}
	}
}

// P3.1, Parse: quantities as they come.
func TestParseTells(t *testing.T) {
	for s, want := range map[string]int64{
		"0":                   0,
		"0k":                  0,
		"0Ti":                 0,
		"1":                   1,
		"9":                   9,
		"10":                  10,
		"100":                 100,
		"1234567890":          1234567890,
		"3k":                  3000,
		"3000":                3000,
		"1Ki":                 1024,
		"1024":                1024,
		"1000Ki":              1024000,
		"1024k":               1024000,
		"2M":                  2000000,
		"2Mi":                 2097152,
		"4G":                  4000000000,
		"4Gi":                 4294967296,
		"7T":                  7000000000000,
		"7Ti":                 7696581394432,
		"10Ki":                10240,
		"1000k":               1000000,
		"9223372036854775806": math.MaxInt64 - 1,
		"9223372036854775807": math.MaxInt64,
	} {
		if n, e := quantity.Parse(s); n != want || e != api.OK {
			t.Errorf("%q: %d %d", s, n, e)
		}
	}
}

// P3.1, Parse: what is no figures and a suffix.
func TestParseOfNoText(t *testing.T) {
	for _, s := range []string{
		"", "k", "Ti", " ", "-", "+", "-0", "-1", "+1", "-1k", "--1", "1-", "1.5", "1.", ".5", "1,5", "1_000", "1e3", "0x10", "1E", "1P", "1Pi",
		"1 ", " 1", "1 k", "1k ", "1\n", "1\x00", "\x001", "1K", "1ki", "1KI", "1kI", "1m", "1mi", "1Mb", "1B", "1i", "1kk", "1kM", "1Kii", "1TiTi", "1k1", "k1", "1Ti1", "k1k", "1no", "1none",
		"a", "1a", "a1", "/", ":", "1/", "1:", "1/2", "١", "１", "²", "1²", "1\u00b5", "1\u212ai", "\xff", "1\xff", "1\xffk",
	} {
		if n, e := quantity.Parse(s); n != 0 || e != api.ErrForm {
			t.Errorf("%q: %d %d", s, n, e)
		}
	}
	for b := range 256 {
		c := string([]byte{byte(b)})
		for _, s := range []string{c, c + "1", "1" + c, "1" + c + "1", "1" + c + "k", "1k" + c, "1K" + c} {
			n, e := quantity.Parse(s)
			if want, is := read(s); n != want || e != is {
				t.Errorf("%q: %d %d", s, n, e)
			}
		}
	}
}

// P3.1, Parse: needless noughts, ahead of any suffix, and of a number that is too great.
func TestParseOfNeedlessNoughts(t *testing.T) {
	for _, suffix := range rising() {
		for _, figures := range []string{"00", "000", "01", "007", "010", "00000000000000000000000000000", "0000000000000000000000001", "09223372036854775807", "09223372036854775808", "099999999999999999999999"} {
			if n, e := quantity.Parse(figures + suffix); n != 0 || e != api.ErrForm {
				t.Errorf("%q: %d %d", figures+suffix, n, e)
			}
		}
	}
}

// P3.1, Parse: of each suffix the greatest number, and one more.
func TestParseAtTheGreatest(t *testing.T) {
	most := map[string]string{
		"":   "9223372036854775807",
		"k":  "9223372036854775",
		"Ki": "9007199254740991",
		"M":  "9223372036854",
		"Mi": "8796093022207",
		"G":  "9223372036",
		"Gi": "8589934591",
		"T":  "9223372",
		"Ti": "8388607",
	}
	for _, suffix := range rising() {
		number, _ := strconv.ParseUint(most[suffix], 10, 64)
		want := new(big.Int).Mul(new(big.Int).SetUint64(number), factor(suffix)).Int64()
		if n, e := quantity.Parse(most[suffix] + suffix); n != want || e != api.OK {
			t.Errorf("%s%s: %d %d", most[suffix], suffix, n, e)
		}
		for d := range uint64(20) {
			s := strconv.FormatUint(number+1+d, 10) + suffix
			if n, e := quantity.Parse(s); n != 0 || e != api.ErrFull {
				t.Errorf("%q: %d %d", s, n, e)
			}
		}
	}
}

// P3.1, Parse: numbers that are too great by themselves, those among them that wrap round to small ones.
func TestParseOfTooGreatNumbers(t *testing.T) {
	figures := []string{
		"9223372036854775808", "9223372036854775809", "9223372036854775810", "9223372036854775900", "9999999999999999999", "10000000000000000000",
		"18446744073709551615", "18446744073709551616", "18446744073709551617", "36893488147419103233", "92233720368547758070", "92233720368547758080", "99999999999999999999999",
		"340282366920938463463374607431768211456", "340282366920938463463374607431768211457",
		"1" + strings.Repeat("0", 19), "1" + strings.Repeat("0", 64), "1" + strings.Repeat("0", 100000), strings.Repeat("9", 100000),
	}
	for _, f := range figures {
		for _, suffix := range rising() {
			if n, e := quantity.Parse(f + suffix); n != 0 || e != api.ErrFull {
				t.Errorf("%.60q: %d %d", f+suffix, n, e)
			}
		}
		// ErrForm is named first.
		for _, suffix := range []string{"K", "m", "i", " ", "Tii", "-", "k1", ".", "\xff"} {
			if n, e := quantity.Parse(f + suffix); n != 0 || e != api.ErrForm {
				t.Errorf("%.60q: %d %d", f+suffix, n, e)
			}
		}
	}
}

// P3.1, Parse: products that wrap round to what may be.
func TestParseDoesNotWrapRound(t *testing.T) {
	for _, suffix := range []string{"k", "Ki", "M", "Mi", "G", "Gi", "T", "Ti"} {
		for n := uint(63); n <= 72; n++ {
			up := new(big.Int).Lsh(big.NewInt(1), n)
			number := up.Quo(up, factor(suffix))
			for d := int64(1); d <= 3; d++ {
				s := new(big.Int).Add(number, big.NewInt(d)).String() + suffix
				if n, e := quantity.Parse(s); n != 0 || e != api.ErrFull {
					t.Errorf("%q: %d %d", s, n, e)
				}
			}
		}
	}
}

// P3.1, Parse: all short texts of figures, letters of suffixes, and what stands beside them.
func TestParseOfShortTexts(t *testing.T) {
	l := texts(5, "0", "1", "9", "k", "K", "M", "T", "i", "-", "/", ":", ".")
	for _, s := range texts(3, "0", "5", "k", "K", "m", "M", "g", "G", "t", "T", "i", "I", "P", " ", "+", "\xff") {
		l = append(l, s, "922337203685477580"+s, "838860"+s, "922337"+s, "900719925474099"+s)
	}
	for _, s := range l {
		n, e := quantity.Parse(s)
		if want, is := read(s); n != want || e != is {
			t.Errorf("%q: %d %d, not %d %d", s, n, e, want, is)
		}
	}
}

// P3.1, Text: own texts as they come, among them those of quantities that several factors divide.
func TestTextTells(t *testing.T) {
	for n, want := range map[int64]string{
		0:                       "0",
		1:                       "1",
		7:                       "7",
		10:                      "10",
		999:                     "999",
		1000:                    "1k",
		1001:                    "1001",
		1023:                    "1023",
		1024:                    "1Ki",
		1025:                    "1025",
		2000:                    "2k",
		3000:                    "3k",
		10240:                   "10Ki",
		24000:                   "24k",
		128000:                  "125Ki",
		1000000:                 "1M",
		1024000:                 "1000Ki",
		1048576:                 "1Mi",
		1000000000:              "1G",
		1048576000:              "1000Mi",
		1024000000:              "1024M",
		16384000000:             "15625Mi",
		1073741824:              "1Gi",
		1000000000000:           "1T",
		1073741824000:           "1000Gi",
		1099511627776:           "1Ti",
		1000000000000000:        "1000T",
		1000000000000000000:     "1000000T",
		1125899906842624:        "1024Ti",
		8388607 << 40:           "8388607Ti",
		math.MaxInt64 - 1:       "9223372036854775806",
		math.MaxInt64:           "9223372036854775807",
		9223372 * 1000000000000: "9223372T",
	} {
		if got := quantity.Text(n); got != want {
			t.Errorf("%d: %q, not %q", n, got, want)
		}
	}
}

// P3.1, Text: what is below 0 has none, be it a product of a factor or not.
func TestTextOfNoQuantity(t *testing.T) {
	for _, n := range quantities() {
		if n != 0 && quantity.Text(-n) != "" {
			t.Errorf("%d: %q", -n, quantity.Text(-n))
		}
	}
	for _, n := range []int64{-1, -1000, -1024, -1 << 40, math.MinInt64, math.MinInt64 + 1} {
		if got := quantity.Text(n); got != "" {
			t.Errorf("%d: %q", n, got)
		}
	}
}

// P3.1, Text: the one with the greatest factor, of many quantities.
func TestTextHasTheGreatestFactor(t *testing.T) {
	for _, n := range quantities() {
		if got := quantity.Text(n); got != own(n) {
			t.Errorf("%d: %q, not %q", n, got, own(n))
		}
	}
}

// P3.2, T1: a quantity is that of its own text, and of each other text of it.
func TestQuantitiesComeBack(t *testing.T) {
	for _, n := range quantities() {
		if x, e := quantity.Parse(quantity.Text(n)); x != n || e != api.OK {
			t.Errorf("%d: %q: %d %d", n, quantity.Text(n), x, e)
		}
		for _, s := range textsOf(n) {
			if x, e := quantity.Parse(s); x != n || e != api.OK {
				t.Errorf("%d: %q: %d %d", n, s, x, e)
			}
		}
	}
}

// P3.2: no text of a quantity has fewer figures than its own, whose suffix is the one with the greatest factor that divides it.
func TestOwnTextsHaveTheFewestFigures(t *testing.T) {
	for _, n := range quantities() {
		text := quantity.Text(n)
		figures := len(strings.TrimRight(text, "kKMGTi"))
		if figures == 0 || !asText.MatchString(text) {
			t.Errorf("%d: %q", n, text)
		}
		for _, s := range textsOf(n) {
			if len(strings.TrimRight(s, "kKMGTi")) < figures {
				t.Errorf("%d: %q, not %q", n, s, text)
			}
		}
	}
}

// P3.2: a text is read as a number times a factor, the one that Factor tells.
func TestTextsAreNumbersTimesFactors(t *testing.T) {
	for _, suffix := range rising() {
		f := quantity.Factor(suffix)
		if f <= 0 {
			t.Fatalf("%q: %d", suffix, f)
		}
		for _, n := range quantities() {
			s := strconv.FormatInt(n, 10) + suffix
			want, is := int64(0), api.ErrFull
			if product := new(big.Int).Mul(big.NewInt(n), big.NewInt(f)); product.IsInt64() {
				want, is = product.Int64(), api.OK
			}
			if x, e := quantity.Parse(s); x != want || e != is {
				t.Errorf("%q: %d %d, not %d %d", s, x, e, want, is)
			}
		}
	}
}

// P3.2: a text that is read has an own text that is read likewise.
func TestTextsComeBack(t *testing.T) {
	for _, s := range texts(6, "0", "1", "5", "8", "k", "K", "M", "T", "i") {
		n, e := quantity.Parse(s)
		if e != api.OK {
			continue
		}
		text := quantity.Text(n)
		if x, e := quantity.Parse(text); x != n || e != api.OK {
			t.Errorf("%q: %d, %q: %d %d", s, n, text, x, e)
		}
	}
}

// P1 and P2: every call ends without a panic, and tells the same of the same, whatever it was asked between.
func TestCallsEndAndTellTheSame(t *testing.T) {
	type answers struct {
		n, factor int64
		errno     api.Errno
		text      string
	}
	ask := func(s string, n int64) (a answers) {
		a.n, a.errno = quantity.Parse(s)
		a.factor = quantity.Factor(s)
		a.text = quantity.Text(n)
		return a
	}
	l := append(texts(3, "0", "1", "k", "T", "i", "-", "\xff"), strings.Repeat("9", 1000000), strings.Repeat("0", 1000000), strings.Repeat("k", 1000000), strings.Repeat("1", 1000000)+"Ti", "9223372036854775807", "9223372036854775808", "8388607Ti", "8388608Ti")
	numbers := append(quantities(), -1, math.MinInt64)
	first := make([]answers, len(l))
	for i, s := range l {
		first[i] = ask(s, numbers[len(numbers)-1-i])
	}
	for i := range l {
		j := len(l) - 1 - i
		if ask(l[j], numbers[len(numbers)-1-j]) != first[j] {
			t.Errorf("%.40q: told otherwise", l[j])
		}
	}
}
