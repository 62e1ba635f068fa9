package prims

import (
	"strconv"
	"strings"
	"testing"

	"carrel/api"
)

// chapter is the chapter's table: number, name, takes, lays, I and C.
const chapter = `
1 EXIT 0 0
2 (lit) 0 1
3 (branch) 0 0
4 (0branch) 1 0
5 (do) 2 0
6 (loop) 0 0
7 (+loop) 1 0
8 (s") 0 2
9 (.") 0 0
10 (abort") 1 0
11 (does) 0 0
12 EXECUTE 1 0
13 DUP 1 2
14 DROP 1 0
15 SWAP 2 2
16 OVER 2 3
17 ROT 3 3
18 ?DUP 1 2
19 2DUP 2 4
20 2DROP 2 0
21 2SWAP 4 4
22 2OVER 4 6
23 DEPTH 0 1
24 >R 1 0
25 R> 0 1
26 R@ 0 1
27 + 2 1
28 - 2 1
29 * 2 1
30 / 2 1
31 MOD 2 1
32 /MOD 2 2
33 */ 3 1
34 */MOD 3 2
35 NEGATE 1 1
36 ABS 1 1
37 MIN 2 1
38 MAX 2 1
39 1+ 1 1
40 1- 1 1
41 2* 1 1
42 2/ 1 1
43 LSHIFT 2 1
44 RSHIFT 2 1
45 AND 2 1
46 OR 2 1
47 XOR 2 1
48 INVERT 1 1
49 = 2 1
50 < 2 1
51 > 2 1
52 U< 2 1
53 0= 1 1
54 0< 1 1
55 M* 2 2
56 UM* 2 2
57 UM/MOD 3 2
58 SM/REM 3 2
59 FM/MOD 3 2
60 S>D 1 2
61 @ 1 1
62 ! 2 0
63 C@ 1 1
64 C! 2 0
65 +! 2 0
66 2@ 1 2
67 2! 3 0
68 CELL+ 1 1
69 CELLS 1 1
70 CHAR+ 1 1
71 CHARS 1 1
72 ALIGN 0 0
73 ALIGNED 1 1
74 HERE 0 1
75 ALLOT 1 0
76 , 1 0
77 C, 1 0
78 FILL 3 0
79 MOVE 3 0
80 COUNT 1 2
81 BASE 0 1
82 STATE 0 1
83 DECIMAL 0 0
84 HEX 0 0
85 EMIT 1 0
86 TYPE 2 0
87 . 1 0
88 U. 1 0
89 CR 0 0
90 SPACE 0 0
91 SPACES 1 0
92 BL 0 1
93 I 0 1
94 J 0 1
95 UNLOOP 0 0
96 : 0 0
97 ; 0 0 I C
98 CREATE 0 0
99 VARIABLE 0 0
100 CONSTANT 1 0
101 DOES> 0 0 I C
102 IMMEDIATE 0 0
103 ' 0 1
104 ['] 0 0 I C
105 LITERAL 1 0 I C
106 POSTPONE 0 0 I C
107 RECURSE 0 0 I C
108 [ 0 0 I
109 ] 0 0
110 IF 0 1 I C
111 ELSE 1 1 I C
112 THEN 1 0 I C
113 BEGIN 0 1 I C
114 UNTIL 1 0 I C
115 WHILE 1 2 I C
116 REPEAT 2 0 I C
117 AGAIN 1 0 I C
118 DO 0 1 I C
119 LOOP 1 0 I C
120 +LOOP 1 0 I C
121 ( 0 0 I
122 \ 0 0 I
123 ." 0 0 I
124 S" 0 2 I
125 ABORT 0 0
126 ABORT" 0 0 I C
127 THROW 1 0
128 CHAR 0 1
129 [CHAR] 0 0 I C
130 >BODY 1 1
131 CREATE-FILE 3 2
132 OPEN-FILE 3 2
133 CLOSE-FILE 1 1
134 READ-FILE 3 2
135 WRITE-FILE 3 1
136 FILE-SIZE 1 3
137 RESIZE-FILE 3 1
138 DELETE-FILE 2 1
139 RENAME-FILE 4 1
140 FILE-POSITION 1 3
141 REPOSITION-FILE 3 1
`

// model tells the primitives as the chapter's table has them, the first one at 0.
func model(t *testing.T) []api.Prim {
	t.Helper()
	list := []api.Prim{}
	for _, line := range strings.Split(strings.TrimSpace(chapter), "\n") {
		f := strings.Fields(line)
		n, e1 := strconv.Atoi(f[0])
		takes, e2 := strconv.Atoi(f[2])
		lays, e3 := strconv.Atoi(f[3])
		if e1 != nil || e2 != nil || e3 != nil || n != len(list)+1 {
			t.Fatal("the model's line", line)
		}
		marks := strings.Join(f[4:], " ")
		list = append(list, api.Prim{Name: f[1], Takes: takes, Lays: lays,
			Immediate: strings.Contains(marks, "I"), Compile: strings.Contains(marks, "C")})
	}
	if len(list) != 141 {
		t.Fatal("the model has", len(list))
	}
	return list
}

// alike asks whether two names are the same but for letters a to z, which
// count as A to Z.
func alike(a, b string) bool {
	if len(a) != len(b) {
		return false
	}
	for i := range len(a) {
		if a[i] != b[i] && (a[i]^b[i] != 32 || !strings.Contains("abcdefghijklmnopqrstuvwxyz", string([]byte{a[i] | 32}))) {
			return false
		}
	}
	return true
}

// wanted is what Find must answer.
func wanted(list []api.Prim, name string) int {
	for i, p := range list {
		if n := i + 1; (n < 2 || n > 11) && alike(p.Name, name) {
			return n
		}
	}
	return 0
}
