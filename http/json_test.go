package http

import (
	"encoding/json"
	"fmt"
	"math"
	"slices"
	"strings"
	"testing"
	"unicode/utf8"

	"tocsin/api"
)

// reads asks for a value, whatever blanks stand about it.
func reads(t *testing.T, s string, want api.Json) {
	t.Helper()
	for _, blanks := range []string{"", " ", "\t\r\n "} {
		if j, e, at := ReadJson(blanks + s + blanks); e != api.OK || at != 0 || !sameJson(j, want) {
			t.Errorf("ReadJson(%.200q): %.200q, %d, %d", blanks+s, fmt.Sprint(j), e, at)
		}
		checkRead(t, blanks+s+blanks)
	}
}

// fails asks for an error at a place.
func fails(t *testing.T, s string, e api.Errno, at int) {
	t.Helper()
	for _, blanks := range []string{"", " \n"} {
		if j, f, place := ReadJson(blanks + s); f != e || place != len(blanks)+at || !isNoJson(j) {
			t.Errorf("ReadJson(%.200q): %.200q, %d, %d; want %d, %d", blanks+s, fmt.Sprint(j), f, place, e, len(blanks)+at)
		}
		checkRead(t, blanks+s)
	}
}

func TestExamples_Json(t *testing.T) {
	reads(t, `[1, {"a": null}]`, list(number(1), object([]string{"a"}, null())))
	fails(t, "[01]", api.ErrJson, 2)
	fails(t, `{"a":1,"a":2}`, api.ErrTwice, 7)
	fails(t, "1e999", api.ErrLarge, 0)
	if s, e := WriteJson(number(1e21)); s != "1e+21" || e != api.OK {
		t.Error(s, e)
	}
}

func TestP28_5_Read(t *testing.T) {
	for s, want := range map[string]api.Json{
		"null": null(), "true": yes(true), "false": yes(false), "0": number(0), `""`: text(""), "[]": list(), "{}": object(nil), "[ ]": list(), "{\t}": object(nil),
		"[null,true,false]":                  list(null(), yes(true), yes(false)),
		"[[],[[]],{}]":                       list(list(), list(list()), object(nil)),
		`{"a":{"a":[]},"":"","b":[1]}`:       object([]string{"a", "", "b"}, object([]string{"a"}, list()), text(""), list(number(1))),
		`{"A":1,"a":2}`:                      object([]string{"A", "a"}, number(1), number(2)),
		`[{"a":1},{"a":2}]`:                  list(object([]string{"a"}, number(1)), object([]string{"a"}, number(2))),
		"\t[\r\n1 ,\n2\r,\t3 ] ":             list(number(1), number(2), number(3)),
		"\n{ \"a\"\t:\r1 , \"b\" :2\n}\r\n ": object([]string{"a", "b"}, number(1), number(2)),
	} {
		reads(t, s, want)
	}
	for s, at := range map[string]int{
		"": 0, "nul": 3, "n": 1, "nulx": 3, "nullx": 4, "Null": 0, "nUll": 1, "tru": 3, "trux": 3, "truetrue": 4, "fals": 4, "falsy": 4, "f": 1, "none": 1, "x": 0, "\x00": 0, "\xff": 0, "é": 0, "'a'": 0, "\x0b": 0, "\ufeff1": 0,
		"[": 1, "[ ": 2, "[1": 2, "[1 ": 3, "[1,": 3, "[1, ": 4, "[1,]": 3, "[,": 1, "[,1]": 1, "[1,,2]": 3, "[1 2]": 3, "[1;2]": 2, "[1}": 2, "]": 0, "[]]": 2, "[][]": 2, "[tru]": 4, "[nul": 4, "[\"a\"\"b\"]": 4, "[1:2]": 2,
		"{": 1, "{ ": 2, "}": 0, "{}}": 2, "{a": 1, "{1:2}": 1, `{"a"`: 4, `{"a" `: 5, `{"a"}`: 4, `{"a",`: 4, `{"a":`: 5, `{"a":}`: 5, `{"a": ,`: 6, `{"a":1`: 6, `{"a":1,`: 7, `{"a":1,}`: 7, `{"a":1]`: 6, `{"a":1 "b":2}`: 7, `{"a":1,"b"}`: 10, `{,`: 1, `{"a"::1}`: 5, `{null:1}`: 1, `{"a":1,1:2}`: 7, "{]": 1,
		"1 1": 2, "1,": 1, "null null": 5, "\"a\" x": 4, "// 1": 0, "1 // a": 2, "/**/1": 0, "NaN": 0, "Infinity": 0, "-Infinity": 0, "undefined": 0,
	} {
		fails(t, s, api.ErrJson, at)
	}
}

func TestP28_5_ReadNumber(t *testing.T) {
	minus := math.Copysign(0, -1)
	for s, want := range map[string]float64{
		"0": 0, "-0": minus, "1": 1, "-1": -1, "10": 10, "9007199254740993": 9007199254740992, "0.5": 0.5, "-0.5": -0.5, "0.0": 0, "-0.0": minus, "1.50": 1.5, "100.001": 100.001,
		"1e2": 100, "1E2": 100, "1e+2": 100, "1E-2": 0.01, "0e0": 0, "-0e99999": minus, "0e999999999999999999999999999999": 0, "1e-999": 0, "-1e-999": minus, "1e-99999999999999999999999999999": 0, "1.5e1": 15, "1e00000000000000000000000000000000002": 100, "1e-0": 1,
		"5e-324": 5e-324, "2.4703282292062328e-324": 5e-324, "2.4703282292062327e-324": 0, "1.7976931348623157e308": math.MaxFloat64, "1.7976931348623158e308": math.MaxFloat64, "0.1": 0.1, "123456789012345678901234567890": 123456789012345678901234567890,
		"0.00000000000000000000000000000000000000000000000000000000001e60": 10,
		strings.Repeat("1", 64):              1111111111111111111111111111111111111111111111111111111111111111,
		"0." + strings.Repeat("0", 61) + "1": 1e-62, "1e" + strings.Repeat("0", 61) + "2": 100, "-1" + strings.Repeat("0", 62): -1e62,
	} {
		reads(t, s, number(want))
		reads(t, "["+s+"]", list(number(want)))
	}
	for _, s := range []string{"-", "--1", "-a", "-.5", "-e1", "1.", "1.e1", "1.x", "0.", "-0.", "-0.e1", "1e", "1E", "1e+", "1E-", "1e+x", "1ee1", "1e.5", "1.5e", "1.5e+", "-Inf",
		strings.Repeat("1", 65), "0." + strings.Repeat("0", 62) + "1", "1e" + strings.Repeat("0", 62) + "2", "-1" + strings.Repeat("0", 63), strings.Repeat("9", 1000), strings.Repeat("9", 65) + "e999", strings.Repeat("9", 64) + ".",
	} {
		fails(t, s, api.ErrJson, 0)
		fails(t, "["+s+"]", api.ErrJson, 1)
		fails(t, "["+s, api.ErrJson, 1)
		fails(t, `{"a":`+s+` ,`, api.ErrJson, 5)
	}
	for s, at := range map[string]int{"01": 1, "00": 1, "-01": 2, "-00": 2, "+1": 0, ".5": 0, "1.5.2": 3, "1e5e5": 3, "1e5.5": 3, "0x1": 1, "1a": 1, "1_0": 1, "1,5": 1, "1 5": 2, "1-2": 1, "0-": 1, "1e1-": 3, "1.0.": 3, "012": 1, "1f": 1} {
		fails(t, s, api.ErrJson, at)
	}
	for _, s := range []string{"1e309", "-1e309", "1e999", "1E+308000", "1.7976931348623159e308", "-1.797693134862315808e308", "1e99999999999999999999999999999999999999999999999", "10e308", strings.Repeat("9", 60) + "e260"} {
		fails(t, s, api.ErrLarge, 0)
		fails(t, "[1,"+s+"]", api.ErrLarge, 3)
		fails(t, `{"a":`+s, api.ErrLarge, 5)
	}
}

func TestP28_5_ReadText(t *testing.T) {
	for s, want := range map[string]string{
		`""`: "", `"a"`: "a", `"é€😀"`: "é€😀", "\"\x7f\"": "\x7f", "\"\ufffd\"": "\ufffd", `"'/"`: "'/",
		`"\"\\\/\b\f\n\r\t"`: "\"\\/\b\f\n\r\t",
		`"\u0041\u00e9\u20AC\uFfFd\u0000\u001f\uffff\ud7ff\ue000"`: "Aé€\ufffd\x00\x1f\uffff\ud7ff\ue000",
		`"\ud83d\ude00\uD83D\uDE00"`:                               "😀😀",
		`"\ud800\udc00\udbff\udfff"`:                               "\U00010000\U0010ffff",
		`"\u005c\u0022"`:                                           `\"`,
		`"\\u0041"`:                                                `\u0041`,
		`"a\u00e9b\nc"`:                                            "aéb\nc",
	} {
		reads(t, s, text(want))
		reads(t, "{"+s+":1}", object([]string{want}, number(1)))
	}
	// Each byte by itself, and behind a \.
	for c := range 256 {
		s := string([]byte{byte(c)})
		switch {
		case c == '"', c == '\\':
		case c < 32, c > 127:
			fails(t, `"a`+s+`"`, api.ErrJson, 2)
			fails(t, `{"a`+s+`":1}`, api.ErrJson, 3)
		default:
			reads(t, `"a`+s+`"`, text("a"+s))
		}
		if strings.Contains(`"\/bfnrt`, s) && c < 128 {
			reads(t, `"a\`+s+`"`, text("a"+map[byte]string{'"': `"`, '\\': `\`, '/': "/", 'b': "\b", 'f': "\f", 'n': "\n", 'r': "\r", 't': "\t"}[byte(c)]))
		} else {
			fails(t, `"a\`+s+`"`, api.ErrJson, 2)
		}
		digit := strings.Contains("0123456789abcdefABCDEF", s) && c < 128
		for i := range 4 {
			x := []byte(`"a\u00e9"`)
			x[4+i] = byte(c)
			if !digit {
				fails(t, string(x), api.ErrJson, 2)
			} else if !(i == 0 && (c == 'd' || c == 'D')) {
				checkRead(t, string(x))
			}
		}
	}
	for s, at := range map[string]int{
		`"`: 1, `"a`: 2, `"é`: 3, `"a" `[:2]: 2, `["a`: 3, `{"a`: 3,
		// An escape that goes wrong is told by its \, one that ends too early by the end.
		`"\`: 2, `"a\`: 3, `"a\u`: 4, `"a\u0`: 5, `"a\u00`: 6, `"a\u004`: 7, `"a\u0041`: 8, `"a\ud83d`: 8, `"a\ud83d\`: 9, `"a\ud83d\u`: 10, `"a\ud83d\ude0`: 13, `"a\ud83d\ude00`: 14,
		`"a\x`: 2, `"a\u004x`: 2, `"a\u004"`: 2, `"a\u"`: 2, `"a\u 041"`: 2, `"a\u+041"`: 2, `"a\u-041"`: 2, `"a\u00_1"`: 2, `"a\U0041"`: 2, `"a\a"`: 2, `"a\'"`: 2, `"a\0"`: 2, `"a\é"`: 2,
		`"a\ud83d"`: 2, `"a\ud83dx"`: 2, `"a\ud83d\n"`: 2, `"a\ud83d\u0041"`: 2, `"a\ud83d\ud83d"`: 2, `"a\ud83d\ud83d\ude00"`: 2, `"a\ud83d\ue000"`: 2, `"a\ud83d\udbff"`: 2, `"a\ude00"`: 2, `"a\udc00`: 2, `"a\udfff\ud83d"`: 2, `"a\udbff"`: 2, `"a\ud800 \udc00"`: 2, `"a\ud83d\ude0x"`: 2, `"a\ud83d\ude00\ude00"`: 14, `"a\ud83d\x"`: 2, `"a\ud83d\u0041`: 2,
		"\"a\xc3\"": 2, "\"a\xc3": 2, "\"a\xa9\"": 2, "\"é\xff\"": 3, "\"a\xed\xa0\x80\"": 2, "\"a\xc0\x80\"": 2, "\"a\xf4\x90\x80\x80\"": 2, "\"a\xf0\x9f\x98\"": 2,
		"\"a\nb\"": 2, "\"a\tb\"": 2, "\"a\x00b\"": 2, "\"a\x1f\"": 2,
	} {
		fails(t, s, api.ErrJson, at)
	}
}

func nested(n int, begin, middle, end string) string {
	return strings.Repeat(begin, n) + middle + strings.Repeat(end, n)
}

func TestP28_5_ReadDeep(t *testing.T) {
	deep := list()
	for range 49 {
		deep = list(deep)
	}
	reads(t, nested(50, "[", "", "]"), deep)
	fails(t, nested(51, "[", "", "]"), api.ErrDeep, 50)
	fails(t, strings.Repeat("[", 51), api.ErrDeep, 50)
	fails(t, strings.Repeat("[", 50), api.ErrJson, 50)
	fails(t, strings.Repeat("[", 65534), api.ErrDeep, 50)
	reads(t, nested(49, "[", "{}", "]"), deepModel(49, object(nil)))
	fails(t, nested(50, "[", "{}", "]"), api.ErrDeep, 50)
	reads(t, nested(49, "[", `{"a":1}`, "]"), deepModel(49, object([]string{"a"}, number(1))))
	fails(t, nested(50, `{"a":`, "{}", "}"), api.ErrDeep, 250)
	fails(t, nested(50, `{"a":`, "[", "}"), api.ErrDeep, 250)
	checkRead(t, nested(50, `{"a":`, "1", "}"))
	fails(t, nested(51, `{"a":`, "1", "}"), api.ErrDeep, 250)
	// Beside one another there may be many more.
	s := "[" + strings.Repeat("[[[]]],", 5000) + "[]]"
	if _, ok := checkRead(t, s); !ok {
		t.Error("beside one another")
	}
	checkRead(t, nested(50, "[", "[", "]"))
	fails(t, nested(49, "[", "[],[]", "]")[:98], api.ErrJson, 98)
}

// deepModel answers a value within n lists.
func deepModel(n int, j api.Json) api.Json {
	for range n {
		j = list(j)
	}
	return j
}

func TestP28_5_ReadTwice(t *testing.T) {
	fails(t, `{"a":1,"b":2,"a":3}`, api.ErrTwice, 13)
	fails(t, `{"":1,"":2}`, api.ErrTwice, 6)
	fails(t, `{"a":1, "\u0061":2}`, api.ErrTwice, 8)
	fails(t, `{"a":1,"a"`, api.ErrTwice, 7)
	fails(t, `{"a":1,"a`, api.ErrJson, 9)
	fails(t, `[{"a":{"b":1,"b":2}}]`, api.ErrTwice, 13)
	fails(t, `{"a":{"a":1},"a":2}`, api.ErrTwice, 13)
	reads(t, `{"a":{"a":1},"b":{"a":2}}`, object([]string{"a", "b"}, object([]string{"a"}, number(1)), object([]string{"a"}, number(2))))
	var b strings.Builder
	for i := range 6000 {
		fmt.Fprintf(&b, `"%x":0,`, i)
	}
	checkRead(t, "{"+b.String()+`"x":0}`)
	fails(t, "{"+b.String()+`"0":0}`, api.ErrTwice, 1+b.Len())
}

func TestP28_5_ReadSize(t *testing.T) {
	full := `"` + strings.Repeat("a", 65534) + `"`
	if j, e, at := ReadJson(full); e != api.OK || at != 0 || !sameJson(j, text(full[1:65535])) {
		t.Error(e, at)
	}
	for _, s := range []string{full + " ", strings.Repeat(" ", 65537), strings.Repeat("[", 65537), strings.Repeat("\xff", 1<<20)} {
		if j, e, at := ReadJson(s); e != api.ErrSize || at != 0 || !isNoJson(j) {
			t.Error(e, at)
		}
	}
	fails(t, strings.Repeat("x", 65534), api.ErrJson, 0)
	if _, e, at := ReadJson(strings.Repeat(" ", 65536)); e != api.ErrJson || at != 65536 {
		t.Error(e, at)
	}
}

// The library reads what is read here as the same.
func TestP28_5_ReadLibrary(t *testing.T) {
	r := newSource(285)
	for range 5000 {
		s, _ := WriteJson(r.json(4))
		s = r.spoilt(s, "[]{},:\"\\ 01.eE-tnu\n")
		j, e, _ := ReadJson(s)
		var v any
		err := json.Unmarshal([]byte(s), &v)
		if e == api.OK && (err != nil || !sameAny(j, v)) {
			t.Errorf("%q: %v, %v", s, j, v)
		}
		if e == api.ErrJson && err == nil && !strings.Contains(s, `\u`) && utf8.ValidString(s) {
			t.Errorf("%q: %v", s, v)
		}
	}
}

func sameAny(j api.Json, v any) bool {
	switch x := v.(type) {
	case nil:
		return j.Kind == api.JNull
	case bool:
		return j.Kind == api.JBool && j.Bool == x
	case float64:
		return j.Kind == api.JNumber && j.Num == x
	case string:
		return j.Kind == api.JText && j.Text == x
	case []any:
		return j.Kind == api.JList && slices.EqualFunc(j.List, x, sameAny)
	case map[string]any:
		for i, name := range j.Names {
			if !sameAny(j.List[i], x[name]) {
				return false
			}
		}
		return j.Kind == api.JObject && len(x) == len(j.Names)
	}
	return false
}

func TestP28_5_ReadModel(t *testing.T) {
	r := newSource(2851)
	for range 30000 {
		s, _ := WriteJson(r.json(4))
		checkRead(t, s)
		s = r.spoilt(s, "[]{},:\"\\ 01.eE+-tnuabdfr\n\x00\xff\xc3")
		checkRead(t, s)
		checkRead(t, s[:r.Intn(len(s)+1)])
		if t.Failed() {
			return
		}
	}
}

// writes asks for a text.
func writes(t *testing.T, j api.Json, want string) {
	t.Helper()
	if s, e := checkWrite(t, j); s != want || e != api.OK {
		t.Errorf("WriteJson: %.200q, %d; want %.200q", s, e, want)
	}
}

// canNot asks for an error.
func canNot(t *testing.T, j api.Json, want api.Errno) {
	t.Helper()
	if s, e := checkWrite(t, j); s != "" || e != want {
		t.Errorf("WriteJson(%.200q): %.200q, %d; want %d", fmt.Sprint(j.Kind), s, e, want)
	}
}

func TestP28_5_Write(t *testing.T) {
	writes(t, null(), "null")
	writes(t, api.Json{Names: []string{}, List: []api.Json{}}, "null")
	writes(t, yes(true), "true")
	writes(t, yes(false), "false")
	for v, want := range map[float64]string{0: "0", 1: "1", -1: "-1", 0.5: "0.5", 1e20: "100000000000000000000", 1e21: "1e+21", -1e21: "-1e+21", 0.000001: "0.000001", 1e-7: "1e-07", 123456.789: "123456.789", math.MaxFloat64: "1.7976931348623157e+308", 5e-324: "5e-324", 0.1: "0.1"} {
		writes(t, number(v), want)
	}
	writes(t, number(math.Copysign(0, -1)), "-0")
	writes(t, text(""), `""`)
	writes(t, text("a\"b\\c/d\n\r\t\b\f\x00\x1f\x7fé€😀\ufffd<>&\u2028"), `"a\"b\\c/d\n\r\t\u0008\u000c\u0000\u001f`+"\x7fé€😀\ufffd<>&\u2028\"")
	writes(t, list(), "[]")
	writes(t, list(null()), "[null]")
	writes(t, list(number(1), list(), list(text("a")), yes(true)), `[1,[],["a"],true]`)
	writes(t, object(nil), "{}")
	writes(t, object([]string{"a"}, null()), `{"a":null}`)
	writes(t, object([]string{"b", "a", "", "\"\n"}, number(1), object([]string{"b"}, list()), text(""), null()), `{"b":1,"a":{"b":[]},"":"","\"\n":null}`)
	for c := range 128 {
		checkWrite(t, text(string(rune(c))))
		checkWrite(t, object([]string{string(rune(c))}, null()))
	}
}

func TestP28_5_WriteKind(t *testing.T) {
	nan := math.Float64frombits(0x7ff8000000000001)
	stale := math.Float64frombits(0x7ff0000000000002)
	minus := math.Copysign(0, -1)
	wrong := []api.Json{
		{Kind: -1}, {Kind: 6}, {Kind: math.MaxInt}, {Kind: math.MinInt},
		number(nan), number(stale), number(math.Inf(1)), number(math.Inf(-1)),
		text("\xff"), text("a\xc3"), text("\xed\xa0\x80"),
		object([]string{"a"}), object(nil, null()), object([]string{"a", "b"}, null()), object([]string{"a"}, null(), null()),
		object([]string{"a", "a"}, null(), null()), object([]string{"a", "b", "a"}, null(), null(), null()), object([]string{"", ""}, null(), null()),
		object([]string{"\xff"}, null()), object([]string{"a", "b\x80"}, null(), null()),
	}
	right := []api.Json{null(), yes(false), yes(true), number(1), number(0), text(""), text("a"), list(), list(null()), object(nil), object([]string{"a"}, null())}
	for _, j := range right {
		checkWrite(t, j)
		// What its kind has not.
		if j.Kind != api.JBool {
			x := j
			x.Bool = true
			wrong = append(wrong, x)
		}
		for _, v := range []float64{1, -1, minus, nan, stale, math.Inf(1), 5e-324} {
			if x := j; j.Kind != api.JNumber {
				x.Num = v
				wrong = append(wrong, x)
			}
		}
		for _, s := range []string{"a", "\xff"} {
			if x := j; j.Kind != api.JText {
				x.Text = s
				wrong = append(wrong, x)
			}
		}
		if x := j; j.Kind != api.JObject {
			x.Names = []string{""}
			wrong = append(wrong, x)
			if j.Kind == api.JList {
				x.Names = make([]string, len(x.List))
				if len(x.List) > 0 {
					wrong = append(wrong, x)
				}
			}
		}
		if x := j; j.Kind != api.JObject && j.Kind != api.JList {
			x.List = []api.Json{null()}
			wrong = append(wrong, x)
		}
	}
	for _, j := range wrong {
		canNot(t, j, api.ErrJson)
		canNot(t, list(j), api.ErrJson)
		canNot(t, list(null(), j, null()), api.ErrJson)
		canNot(t, object([]string{"a", "b"}, list(), list(j)), api.ErrJson)
		canNot(t, deepModel(50, j), api.ErrJson)
	}
}

func TestP28_5_WriteDeep(t *testing.T) {
	writes(t, deepModel(49, list()), nested(50, "[", "", "]"))
	writes(t, deepModel(50, null()), nested(50, "[", "null", "]"))
	writes(t, deepModel(49, object([]string{"a"}, null())), nested(49, "[", `{"a":null}`, "]"))
	canNot(t, deepModel(50, list()), api.ErrDeep)
	canNot(t, deepModel(51, null()), api.ErrDeep)
	canNot(t, deepModel(50, object(nil)), api.ErrDeep)
	canNot(t, deepModel(5000, null()), api.ErrDeep)
	// Two faults at once: the first from the left; of one value that which is named first.
	canNot(t, deepModel(50, object([]string{"a"})), api.ErrJson)
	canNot(t, list(deepModel(50, null()), number(math.NaN())), api.ErrDeep)
	canNot(t, list(number(math.NaN()), deepModel(50, null())), api.ErrJson)
	canNot(t, deepModel(50, list(number(math.NaN()))), api.ErrDeep)
	canNot(t, object([]string{"a", "a"}, deepModel(60, null()), null()), api.ErrJson)
	canNot(t, object([]string{"a", "b"}, deepModel(60, null()), number(math.NaN())), api.ErrDeep)
}

// itself answers values that hold themselves: by lists, by objects, by several.
func itself() []api.Json {
	one := make([]api.Json, 1)
	one[0] = list(one...)
	two := make([]api.Json, 2)
	two[0], two[1] = list(two...), list(two...)
	three := make([]api.Json, 3)
	three[0], three[1], three[2] = number(1), object([]string{"a", "b", "c"}, three...), object([]string{"a", "b", "c"}, three...)
	last := make([]api.Json, 2)
	last[0], last[1] = text("x"), list(last...)
	for i := range one {
		one[i].List = one
	}
	for i := range two {
		two[i].List = two
	}
	for _, j := range []int{1, 2} {
		three[j].List = three
	}
	last[1].List = last
	return []api.Json{one[0], two[0], three[1], last[1]}
}

func TestP28_5_WriteItself(t *testing.T) {
	for _, j := range itself() {
		canNot(t, j, api.ErrDeep)
		canNot(t, list(null(), j), api.ErrDeep)
		canNot(t, list(j, number(math.NaN())), api.ErrDeep)
		canNot(t, list(number(math.NaN()), j), api.ErrJson)
		if Same(j, j) {
			t.Error("the same")
		}
	}
}

func TestP28_5_WriteTwice(t *testing.T) {
	inner := list(number(1), text("a"))
	writes(t, list(inner, inner), `[[1,"a"],[1,"a"]]`)
	// Each holds the one ahead twice: far too much is told, but soon.
	j := number(1)
	for n := range 49 {
		j = list(j, j)
		if n == 15 {
			if s, e := checkWrite(t, j); e != api.OK || len(s) != 4<<16-3 {
				t.Error(len(s), e)
			}
		}
	}
	canNot(t, j, api.ErrSize)
	canNot(t, object([]string{"a", "b"}, j, number(math.NaN())), api.ErrSize)
	canNot(t, object([]string{"a", "b"}, number(math.NaN()), j), api.ErrJson)
}

func TestP28_5_WriteSize(t *testing.T) {
	const most = 1 << 20
	full := strings.Repeat("a", most-2)
	writes(t, text(full), `"`+full+`"`)
	canNot(t, text(full+"a"), api.ErrSize)
	canNot(t, text(full+"\n"), api.ErrSize)
	canNot(t, list(text(full)), api.ErrSize)
	writes(t, list(text(full[:most-4])), `["`+full[:most-4]+`"]`)
	canNot(t, list(text(full[:most-3])), api.ErrSize)
	// The text ahead of a value has MaxFile bytes, or one more, when its fault is come to.
	canNot(t, list(text(full[:most-4]), number(math.NaN())), api.ErrJson)
	canNot(t, list(text(full[:most-3]), number(math.NaN())), api.ErrSize)
	canNot(t, object([]string{"a", "b"}, text(full[:most-1-4-2-1-4]), number(math.NaN())), api.ErrJson)
	canNot(t, object([]string{"a", "b"}, text(full[:most-4-2-1-4]), number(math.NaN())), api.ErrSize)
	canNot(t, object([]string{full[:most-4]}, number(math.NaN())), api.ErrJson)
	canNot(t, object([]string{full[:most-3]}, number(math.NaN())), api.ErrSize)
	canNot(t, object([]string{full + "\xff"}, null()), api.ErrJson)
	canNot(t, text(full+"\xff"), api.ErrJson)
	canNot(t, api.Json{Kind: api.JList, List: make([]api.Json, 1<<20)}, api.ErrSize)
	canNot(t, list(text(full+full), list()), api.ErrSize)
}

func TestP28_5_WriteModel(t *testing.T) {
	r := newSource(2852)
	for range 20000 {
		j := r.json(4)
		s, e := checkWrite(t, j)
		if e != api.OK {
			t.Fatal(j, e)
		}
		checkBack(t, j, s)
		checkWrite(t, r.wrong(j))
	}
}

// wrong answers a value with something that may not be, somewhere.
func (r source) wrong(j api.Json) api.Json {
	if len(j.List) > 0 && r.Intn(3) > 0 {
		j.List = slices.Clone(j.List)
		i := r.Intn(len(j.List))
		j.List[i] = r.wrong(j.List[i])
		return j
	}
	switch r.Intn(7) {
	case 0:
		j.Kind = r.Intn(8) - 1
	case 1:
		j.Bool = !j.Bool
	case 2:
		j.Num = math.Float64frombits(r.Uint64())
	case 3:
		j.Text += "\xff"
	case 4:
		j.Names = append(slices.Clone(j.Names), "a")
	case 5:
		j.List = append(slices.Clone(j.List), null())
	default:
		return deepModel(r.Intn(60), j)
	}
	return j
}

func TestP28_5_Same(t *testing.T) {
	r := newSource(2853)
	for range 10000 {
		a, b := r.json(1), r.json(1)
		x, _ := WriteJson(a)
		y, _ := WriteJson(b)
		if Same(a, b) != (x == y) || Same(b, a) != (x == y) || !Same(a, a) {
			t.Errorf("%q, %q: %v", x, y, Same(a, b))
		}
	}
	for _, c := range []struct {
		a, b api.Json
		want bool
	}{
		{null(), null(), true}, {null(), yes(false), false}, {number(0), number(math.Copysign(0, -1)), false}, {number(1), text("1"), false}, {number(1), number(1), true}, {list(), object(nil), false},
		{list(number(1), number(2)), list(number(2), number(1)), false},
		{object([]string{"a", "b"}, null(), null()), object([]string{"b", "a"}, null(), null()), false},
		{object([]string{}), object(nil), true}, {api.Json{Kind: api.JList, List: []api.Json{}}, list(), true},
		{number(math.NaN()), number(math.NaN()), false}, {number(1), number(math.NaN()), false}, {number(math.NaN()), number(1), false}, {text("\xff"), text("\xff"), false}, {api.Json{Kind: 9}, api.Json{Kind: 9}, false}, {deepModel(51, null()), deepModel(51, null()), false},
		{text(strings.Repeat("a", 1<<20)), text(strings.Repeat("a", 1<<20)), false},
	} {
		if got := Same(c.a, c.b); got != c.want {
			t.Errorf("%.200q: %v", fmt.Sprint(c), got)
		}
		if got := Same(c.b, c.a); got != c.want {
			t.Errorf("%.200q: %v", fmt.Sprint(c), got)
		}
	}
}

// checkBack: what is written of a value is read as it.
func checkBack(t *testing.T, j api.Json, s string) {
	t.Helper()
	if len(s) > 65536 {
		return
	}
	if again, e, at := ReadJson(s); e != api.OK || at != 0 || !sameJson(again, j) {
		t.Errorf("%q: %v, %d, %d", s, again, e, at)
	}
}

// TestP28_7_Json: ReadJson(WriteJson(j)) is j, whatever it is.
func TestP28_7_Json(t *testing.T) {
	r := newSource(2875)
	for range 20000 {
		j := r.json(6)
		s, e := WriteJson(j)
		if e != api.OK {
			t.Fatal(j, e)
		}
		checkBack(t, j, s)
		if s, e := WriteJson(r.wrong(j)); e == api.OK {
			again, f, _ := ReadJson(s)
			if f != api.OK {
				t.Errorf("%q: %d", s, f)
			}
			if text, _ := WriteJson(again); text != s {
				t.Errorf("%q: %q", s, text)
			}
		}
	}
}

// TestP28_8_Blanks: blanks between parts change no value, and what is read is written so that it is read as the same.
func TestP28_8_Blanks(t *testing.T) {
	r := newSource(288)
	for range 5000 {
		j := r.json(4)
		s := r.spaced(j)
		again, ok := checkRead(t, s)
		if !ok || !sameJson(again, j) {
			t.Errorf("%q: %v", s, again)
		}
		compact, e := WriteJson(again)
		if e != api.OK {
			t.Errorf("%q: %d", s, e)
		}
		checkBack(t, j, compact)
	}
}

// spaced answers a text of a value, with blanks in every place.
func (r source) spaced(j api.Json) string {
	blank := func() string { return r.pick("", " ", "\t", "\r", "\n", " \r\n\t") }
	s := blank()
	switch j.Kind {
	case api.JList, api.JObject:
		signs := map[int]string{api.JList: "[]", api.JObject: "{}"}[j.Kind]
		s += signs[:1] + blank()
		for i, x := range j.List {
			if i > 0 {
				s += ","
			}
			if j.Kind == api.JObject {
				s += blank() + quoteModel(j.Names[i]) + blank() + ":"
			}
			s += r.spaced(x)
		}
		s += blank() + signs[1:]
	default:
		text, _ := WriteJson(j)
		s += text
	}
	return s + blank()
}

func TestP28_5_Member(t *testing.T) {
	o := object([]string{"a", "", "b", "a"}, number(1), list(number(2)), object([]string{"c"}, null()), number(3))
	for name, want := range map[string]api.Json{"a": number(1), "": list(number(2)), "b": object([]string{"c"}, null())} {
		if j, is := Member(o, name); !is || !sameJson(j, want) {
			t.Error(name, j, is)
		}
	}
	for _, name := range []string{"c", "A", "\xff", "a "} {
		if j, is := Member(o, name); is || !isNoJson(j) {
			t.Error(name, j, is)
		}
	}
	// As far as it has names and members.
	fewer := object([]string{"a"}, number(1), number(2))
	more := object([]string{"a", "b"}, number(1))
	for _, x := range []api.Json{fewer, more} {
		if j, is := Member(x, "a"); !is || !sameJson(j, number(1)) {
			t.Error(j, is)
		}
		for _, name := range []string{"b", ""} {
			if j, is := Member(x, name); is || !isNoJson(j) {
				t.Error(j, is)
			}
		}
	}
	for _, x := range []api.Json{null(), yes(true), number(1), text("a"), list(number(1)), {Kind: api.JList, Names: []string{"a"}, List: []api.Json{number(1)}}, {Names: []string{"a"}, List: []api.Json{number(1)}}, {Kind: 6, Names: []string{"a"}, List: []api.Json{number(1)}}, {Kind: -1, Names: []string{"a"}, List: []api.Json{number(1)}}, object(nil), object([]string{"a"}), object(nil, number(1))} {
		if j, is := Member(x, "a"); is || !isNoJson(j) {
			t.Error(x, j, is)
		}
	}
	// Whatever else it is, and whatever the member is.
	odd := api.Json{Kind: api.JObject, Text: "\xff", Num: math.NaN(), Names: []string{"\xff"}, List: []api.Json{{Kind: 9, Names: []string{"x"}}}}
	if j, is := Member(odd, "\xff"); !is || !sameJson(j, api.Json{Kind: 9, Names: []string{"x"}}) {
		t.Error(j, is)
	}
}

// TestP1_MemberItself: of a value that holds itself, or far too much, a member is found, and it ends.
func TestP1_MemberItself(t *testing.T) {
	for _, x := range itself() {
		j, is := Member(object([]string{"a"}, x), "a")
		if !is || j.Kind != x.Kind || len(j.List) != len(x.List) || &j.List[0] == &x.List[0] {
			t.Error("another one")
		}
		if _, e := WriteJson(j); e != api.ErrDeep {
			t.Error(e)
		}
	}
	big := number(1)
	for range 60 {
		big = list(big, big)
	}
	if j, is := Member(object([]string{"a"}, big), "a"); !is || len(j.List) != 2 || len(j.List[1].List) != 2 {
		t.Error(is)
	}
	long := deepModel(10000, number(7))
	j, is := Member(object([]string{"a"}, long), "a")
	if !is || !sameJson(j, long) {
		t.Error(is)
	}
	empty := deepModel(100, api.Json{Kind: api.JList, List: []api.Json{}})
	if j, is := Member(object([]string{"a"}, empty), "a"); !is || !sameJson(j, empty) {
		t.Error(is)
	}
}

// spoilJson writes into all lists of a value, and behind them.
func spoilJson(j api.Json) {
	for i := range j.Names {
		j.Names[i] = "spoilt"
	}
	_ = append(j.Names, "spoilt")
	for i := range j.List {
		spoilJson(j.List[i])
		j.List[i] = text("spoilt")
	}
	_ = append(j.List, text("spoilt"))
}

// TestRules_Json: no list is changed or kept, and what is answered is new memory.
func TestRules_Json(t *testing.T) {
	const s = `{"a":[1,[2],{"b":3}],"c":[1,[2],{"b":3}]}`
	j, _, _ := ReadJson(s)
	other, _, _ := ReadJson(s)
	for range 2 {
		m, _ := Member(j, "a")
		spoilJson(m)
		writes(t, j, s)
	}
	spoilJson(other)
	writes(t, j, s)
	// Two members that share memory: what is answered of them does not.
	inner := list(number(1))
	shared := object([]string{"a"}, list(inner, inner))
	m, _ := Member(shared, "a")
	m.List[0].List[0] = text("spoilt")
	writes(t, m, `[["spoilt"],[1]]`)
	writes(t, shared, `{"a":[[1],[1]]}`)
	// So it is as deep as one that can be written.
	m, _ = Member(object([]string{"a"}, deepModel(48, list(inner, inner))), "a")
	for range 48 {
		m = m.List[0]
	}
	m.List[0].List[0] = text("spoilt")
	writes(t, m, `[["spoilt"],[1]]`)
}

// FuzzJson holds ReadJson against its model, and what is read against what is written of it.
func FuzzJson(f *testing.F) {
	f.Add(`[1, {"a": null}, "\ud83d\ude00", -1.5e3, true]`)
	f.Add(`{"a":1,"a":2}`)
	f.Fuzz(func(t *testing.T, s string) {
		checkEscape(t, s)
		j, ok := checkRead(t, s)
		if !ok {
			return
		}
		compact, e := checkWrite(t, j)
		if e != api.OK {
			t.Error(e)
		}
		checkBack(t, j, compact)
		for _, name := range j.Names {
			if _, is := Member(j, name); !is {
				t.Error(name)
			}
		}
	})
}
